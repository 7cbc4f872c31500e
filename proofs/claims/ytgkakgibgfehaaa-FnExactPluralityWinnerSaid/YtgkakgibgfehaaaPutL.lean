/-
  spec.l3Put: ballots go to their pile, or into a new one; what it returns is memory of its own. For lists of piles with an address; numbers from 0 to 1000000.
-/
import Derived.Test.YtgkakgibgfehaaaSh6
import Derived.Maps.AppendAt
namespace Go.Proofs.Ytgkakgibgfehaaa
open Go.RowKit

theorem pile_info : (Tq.prog.info? 48).map (fun i => (i.zero, i.size, i.bytes)) = some (some (.agg #[.string ⟨#[]⟩, .int .i64 0]), 2, 24) := by kernel_rfl
theorem cellsP_one' (ps : List Pl) : ∀ u ∈ cellsP ps, u.oneCell' = true := by
  induction ps with
  | nil => intro u hu; cases hu
  | cons p ps ih =>
    intro u hu
    rw [cellsP] at hu
    rcases List.mem_cons.1 hu with rfl | hu
    · rfl
    · rcases List.mem_cons.1 hu with rfl | hu
      · rfl
      · exact ih u hu
/-- The cells of a part of a slice of piles. -/
theorem part_cells {w : World} {b off len cap : Nat} {ps : List Pl} (h : IsPiles w (some ⟨b, off, none⟩) len cap ps) {w' : World} (hb : ∀ j, j < len * 2 → w'.cell? ⟨b, off + j, none⟩ = w.cell? ⟨b, off + j, none⟩) :
    ∀ j u, (cellsP ps)[j]? = some u → w'.cell? ((⟨b, off, none⟩ : Addr).add j) = some u := by
  intro j u hu
  have hj : j < len * 2 := by
    have := (List.getElem?_eq_some_iff.1 hu).1
    rw [cellsP_length, h.1] at this
    exact this
  rw [add_spot, hb j hj, h.cells j hj, hu]

theorem drew_size (w : World) : w.drew.heap.size = w.heap.size := rfl
/-- The cells of the first k piles, and of the others, in a world in which nothing that was there has turned. -/
theorem take_cells {w w' : World} {b off len cap k : Nat} {ps : List Pl} (h : IsPiles w (some ⟨b, off, none⟩) len cap ps) (hb : b < w.heap.size) (hk : k ≤ len) (hB : Below w.heap.size w w') :
    ∀ j u, (cellsP (ps.take k))[j]? = some u → w'.cell? ((⟨b, off, none⟩ : Addr).add j) = some u :=
  part_cells (h.take hk) fun j _ => hB.cell (p := ⟨b, off + j, none⟩) hb
theorem drop_cells {w w' : World} {b off len cap k : Nat} {ps : List Pl} (h : IsPiles w (some ⟨b, off, none⟩) len cap ps) (hb : b < w.heap.size) (hk : k ≤ len) (hB : Below w.heap.size w w') :
    ∀ j u, (cellsP (ps.drop k))[j]? = some u → w'.cell? ((⟨b, off + k * 2, none⟩ : Addr).add j) = some u :=
  part_cells (h.drop hk (Nat.le_refl _)) fun j _ => hB.cell (p := ⟨b, off + k * 2 + j, none⟩) hb
theorem no_cells {w' : World} {ad : Addr} {ps : List Pl} {k : Nat} (h : ps.length ≤ k) : ∀ j u, (cellsP (ps.drop k))[j]? = some u → w'.cell? (ad.add j) = some u := fun j u hu => by
  rw [List.drop_of_length_le h] at hu
  simp [cellsP] at hu
theorem own_ge {g n c base j : Nat} (h : (Value.slice (some ⟨g, 0, none⟩) n c).ownBlock = some j) (hg : base ≤ g) : base ≤ j := by cases h; exact hg
theorem kept_two {W w5 : World} {row : Option Nat} {q : Nat} {c1 c2 : Value} (hg : W.grownBy w5 row) (hq : q < W.heap.size) (hne : some q ≠ row) (h0 : W.cell? ⟨q, 0, none⟩ = some c1) (h1 : W.cell? ⟨q, 1, none⟩ = some c2) :
    ∀ j u, [c1, c2][j]? = some u → w5.cell? ((⟨q, 0, none⟩ : Addr).add j) = some u := by
  intro j u hu
  match j, hu with
  | 0, hu => simp at hu; subst hu; rw [add_spot]; exact (World.cell?_of_block (a := ⟨q, 0, none⟩) (hg.block q hq hne)).trans h0
  | 1, hu => simp at hu; subst hu; rw [add_spot]; exact (World.cell?_of_block (a := ⟨q, 1, none⟩) (hg.block q hq hne)).trans h1
theorem two_new (w : World) (c1 c2 : Value) (T : TypeId) : ∀ j u, [c1, c2][j]? = some u → (w.alloc (.cells #[c1, c2] T)).cell? ((⟨w.heap.size, 0, none⟩ : Addr).add j) = some u := by
  intro j u hu
  match j, hu with
  | 0, hu => simp at hu; subst hu; rw [add_spot]; exact World.cell?_alloc_new w _ _ 0
  | 1, hu => simp at hu; subst hu; rw [add_spot]; exact World.cell?_alloc_new w _ _ 1
theorem put_cells {ps : List Pl} {k : Nat} {t : ByteArray} {m : Int} (h : putL ps t m = ps.take k ++ (t, m) :: ps.drop k) : cellsP (ps.take k) ++ [.string t, .int .i64 m] ++ cellsP (ps.drop k) = cellsP (putL ps t m) := by
  rw [h, cellsP_app, cellsP]; simp
theorem put_length {ps : List Pl} {k : Nat} {t : ByteArray} {m : Int} (h : putL ps t m = ps.take k ++ (t, m) :: ps.drop k) (hk : k ≤ ps.length) : (putL ps t m).length = k + 1 + (ps.length - k) := by
  rw [h]; simp; omega
theorem some_of_owns {w : World} {base n size : Nat} {e : TypeId} {v : Value} {xs : List Value} (h : w.ownsRow base e size v n xs) (hn : 0 < n) : ∃ g c, v = .slice (some ⟨g, 0, none⟩) n c := by
  rcases h.2 with ⟨_, e0⟩ | ⟨g, c, _, e, _⟩
  · omega
  · exact ⟨g, c, e⟩

set_option maxRecDepth 100000 in
set_option maxHeartbeats 8000000 in
/-- **spec.l3Put** answers as putL does. -/
theorem l3Put_any (b off len cap : Nat) (ps : List Pl) (t : ByteArray) (m : Int) (w : World) (h : IsPiles w (some ⟨b, off, none⟩) len cap ps) (hbl : b < w.heap.size) (hlen : len ≤ 1000) (hps : ∀ i, 0 ≤ mAt ps i ∧ mAt ps i ≤ 1000000) (hm : 0 ≤ m ∧ m ≤ 1000000) :
    Calls Tq.prog 100 #[.slice (some ⟨b, off, none⟩) len cap, .string t, .int .i64 m] w fun e w' => ∃ g cap', e = .returned (.slice (some ⟨g, 0, none⟩) (putL ps t m).length cap') ∧
      w'.ownsRow w.heap.size 48 2 (.slice (some ⟨g, 0, none⟩) (putL ps t m).length cap') (putL ps t m).length (cellsP (putL ps t m)) ∧ Below w.heap.size w w' := by
  obtain ⟨i0, hi, hz0, hz1, hz2⟩ := info_parts pile_info
  have hcap := h.2.1
  have HI := Lib.hid h
  have H1 := Lib.hid h.1
  have HP := Lib.hid hps
  have hcell : ∀ j, j < len → w.cell? ⟨b, off + j * 2, none⟩ = some (.string (tAt ps j)) ∧ w.cell? ⟨b, off + j * 2 + 1, none⟩ = some (.int .i64 (mAt ps j)) := fun j hj => by
    obtain ⟨b', off', e, _, hc⟩ := h.2.2.2 (by omega)
    cases e
    exact hc j hj
  have HC := Lib.hid hcell
  clear h hps hcell
  have BW0 : Below w.heap.size w (w.alloc (.cells #[] 48)) := (Below.refl _ w).alloc (Nat.le_refl _) _
  have SA := BW0.size
  have hE0 : Hid ((w.alloc (.cells #[] 48)).ownsRow w.heap.size 48 2 (.slice (some ⟨w.heap.size, 0, none⟩) 0 0) 0 []) := World.ownsRow_lit (base := w.heap.size) (e := 48) (size := 2) w #[] 0 (Nat.le_refl _) (by unfold maxLen; omega) rfl
  have LP : Hid ((cellsP ps).length = len * 2) := by unfold Hid; rw [cellsP_length, H1.out]
  have PA0 : Hid (∀ j u, (cellsP ps)[j]? = some u → (w.alloc (.cells #[] 48)).cell? ((⟨b, off, none⟩ : Addr).add j) = some u) := part_cells HI.out fun j _ => BW0.cell (p := ⟨b, off + j, none⟩) hbl
  have MA : 0 + len ≤ maxLen := by unfold maxLen; omega
  have NA : (0 + len) * 24 ≤ 140737488355328 := by omega
  go_enter Tq.func100, Tq.ntmps100
  go_wp2
  go_loop [7] (fun i => ∃ k : Nat, k ≤ len ∧ i = .int .i64 k ∧ Hid (∀ j, j < k → tl (tAt ps j) t = true)) (fun i => len - (intOf i).toNat)
  case atStart => exact ⟨0, Nat.zero_le _, rfl, fun j hj => by omega⟩
  case round =>
    obtain ⟨k, hk, rfl, hL⟩ := hrel
    by_cases hlt : k < len
    · obtain ⟨t', ht'⟩ : ∃ t', tAt ps k = t' := ⟨_, rfl⟩
      have c0 : w.cell? ⟨b, off + k * 2, none⟩ = some (.string t') := by rw [(HC.out k hlt).1, ht']
      have HT := Lib.hid ht'; clear ht'
      have hkl : decide ((k : Int) < (len : Int)) = true := decide_eq_true (by omega)
      cases hu : Op.bytesLess t'.toList t.toList
      · by_cases het : t' = t
        · subst het
          obtain ⟨m', hm'⟩ : ∃ m', mAt ps k = m' := ⟨_, rfl⟩
          have hm0 := HP.out k
          rw [hm'] at hm0
          have HN : Hid (putL ps t' m = ps.set k (t', m' + m)) := by unfold Hid; rw [← hm']; exact put_same hL.out (by rw [H1.out]; exact hlt) HT.out
          have HM := Lib.hid hm'; clear hm'
          have heq : (t'.toList == t'.toList) = true := by simp
          have hl0 : 0 < len := by omega
          have hk2 : k * 2 + 1 < len * 2 := by omega
          have hkk : (k : Int) ≤ (cap : Int) := by omega
          have HCM : Hid ((cellsP ps)[k * 2 + 1]? = some (.int .i64 m')) := by rw [Hid, ← HM.out]; exact cellsP_many ps k (by rw [H1.out]; exact hlt)
          have hw1 : IntKind.i64.wrap (m' + m) = m' + m := IntWalk.i64_in _ (by omega)
          go_wp2_with (first | (at_builtin; refine wpList_append_own _ rfl _ _ 23 rfl w.heap.size 48 i0 (.agg #[.string ⟨#[]⟩, .int .i64 0]) 2 24 Tq.underlying23 hi hz0 hz1 hz2 rfl Nat.two_pos _ _ _ rfl hE0.out ⟨b, off, none⟩ len _ (cellsP ps) rfl LP.out PA0.out (cellsP_one' _) MA NA SA ?_; intro v4 w4 hown4 hgrow4 _; simp only [Nat.zero_add, List.nil_append] at hown4; obtain ⟨g4, c4, rfl⟩ := some_of_owns hown4 hl0; have B4 : Hid (Below w.heap.size w w4) := BW0.grown hgrow4 BW0.size (fun j ej => own_ge ej (Nat.le_refl _)); have d4 : w4.cell? ⟨b, off + k * 2, none⟩ = some (.string t') := (B4.out.cell (p := ⟨b, off + k * 2, none⟩) hbl).trans c0; have e4 : w4.cell? ⟨g4, k * 2 + 1, none⟩ = some (.int .i64 m') := (hown4.cellAt (k * 2 + 1) hk2).trans HCM.out; have f4 : w4.frozen? ⟨g4, k * 2 + 1, none⟩ = false := hown4.frozenAt (k * 2 + 1); have O4 := Lib.hid hown4; clear hown4 hgrow4) | go_in)
          go_ret
          have HS := O4.out.stored (k * 2 + 1) (.int .i64 (m' + m))
          rw [cellsP_set ps k (m' + m) (by rw [H1.out]; exact hlt), HT.out] at HS
          have hlen' : (putL ps t' m).length = len := by rw [HN.out, List.length_set, H1.out]
          refine ⟨g4, c4, by rw [hlen']; rfl, ?_, B4.out.grown HS.2 B4.out.size (fun j ej => by cases ej; exact (O4.out.lt g4 rfl).1)⟩
          rw [hlen', HN.out]
          exact HS.1
        · have HN : Hid (putL ps t m = ps.take k ++ (t, m) :: ps.drop k) := put_new hL.out (by rw [H1.out]; omega) (fun _ => ⟨by rw [HT.out]; exact hu, by rw [HT.out]; exact het⟩)
          have hne : (t'.toList == t.toList) = false := by rw [eq_text]; exact decide_eq_false het
          have hl0 : 0 < len := by omega
          go_wp2_with (first | (at_builtin; refine wpList_append_own _ rfl _ _ 23 rfl w.heap.size 48 i0 (.agg #[.string ⟨#[]⟩, .int .i64 0]) 2 24 Tq.underlying23 hi hz0 hz1 hz2 rfl Nat.two_pos _ _ _ rfl hE0.out ⟨b, off, none⟩ len _ (cellsP ps) rfl LP.out PA0.out (cellsP_one' _) MA NA SA ?_; intro v4 w4 hown4 hgrow4 _; simp only [Nat.zero_add, List.nil_append] at hown4; obtain ⟨g4, c4, rfl⟩ := some_of_owns hown4 hl0; have B4 : Hid (Below w.heap.size w w4) := BW0.grown hgrow4 BW0.size (fun j ej => own_ge ej (Nat.le_refl _)); have d4 : w4.cell? ⟨b, off + k * 2, none⟩ = some (.string t') := (B4.out.cell (p := ⟨b, off + k * 2, none⟩) hbl).trans c0; have O4 := Lib.hid hown4; clear hown4 hgrow4) | go_in)
          have L1 : Hid ((cellsP (ps.take k)).length = k * 2) := by unfold Hid; rw [cellsP_length, List.length_take, H1.out]; omega
          have M1 : 0 + k ≤ maxLen := by unfold maxLen; omega
          have N1 : (0 + k) * 24 ≤ 140737488355328 := by omega
          have M2 : k + 1 ≤ maxLen := by unfold maxLen; omega
          have N2 : (k + 1) * 24 ≤ 140737488355328 := by omega
          have two_one : ∀ u ∈ [Value.string t, .int .i64 m], u.oneCell' = true := by simp [Value.oneCell']
          have S4 := B4.out.size
          have S4s : w.heap.size ≤ w4.heap.size + 1 := by omega
          have BW1 : Below w.heap.size w (w4.alloc (.cells #[] 48)).drew := (B4.out.alloc S4 _).drew
          have BW2 : Below w.heap.size w ((w4.alloc (.cells #[] 48)).alloc (.cells #[.string t, .int .i64 m] 48)).drew := ((B4.out.alloc S4 _).alloc (by simp; omega) _).drew
          have BW3 : Below w.heap.size w ((w4.alloc (.cells #[.string t, .int .i64 m] 48)).alloc (.cells #[] 48)).drew := ((B4.out.alloc S4 _).alloc (by simp; omega) _).drew
          have S1 := BW1.size
          have S2 := BW2.size
          have S3 := BW3.size
          have hE1 : Hid ((w4.alloc (.cells #[] 48)).drew.ownsRow w.heap.size 48 2 (.slice (some ⟨w4.heap.size, 0, none⟩) 0 0) 0 []) := (World.ownsRow_lit (base := w.heap.size) (e := 48) (size := 2) w4 #[] 0 S4 (by unfold maxLen; omega) rfl).drew
          have hE2 : Hid (((w4.alloc (.cells #[] 48)).alloc (.cells #[.string t, .int .i64 m] 48)).drew.ownsRow w.heap.size 48 2 (.slice (some ⟨w4.heap.size, 0, none⟩) 0 0) 0 []) := ((World.ownsRow_lit (base := w.heap.size) (e := 48) (size := 2) w4 #[] 0 S4 (by unfold maxLen; omega) rfl).alloc _).drew
          have hE3 : Hid (((w4.alloc (.cells #[.string t, .int .i64 m] 48)).alloc (.cells #[] 48)).drew.ownsRow w.heap.size 48 2 (.slice (some ⟨w4.heap.size + 1, 0, none⟩) 0 0) 0 []) := by
            have := (World.ownsRow_lit (base := w.heap.size) (e := 48) (size := 2) (w4.alloc (.cells #[.string t, .int .i64 m] 48)) #[] 0 (by simp; omega) (by unfold maxLen; omega) rfl).drew
            rwa [World.size_alloc] at this
          have PA1 := Lib.hid (take_cells HI.out hbl hk BW1)
          have PA2 := Lib.hid (take_cells HI.out hbl hk BW2)
          have PA3 := Lib.hid (take_cells HI.out hbl hk BW3)
          have Q2 : w4.heap.size + 1 < ((w4.alloc (.cells #[] 48)).alloc (.cells #[.string t, .int .i64 m] 48)).drew.heap.size := by rw [drew_size]; simp
          have Q3 : w4.heap.size < ((w4.alloc (.cells #[.string t, .int .i64 m] 48)).alloc (.cells #[] 48)).drew.heap.size := by rw [drew_size]; simp; omega
          have R2 : some (w4.heap.size + 1) ≠ (Value.slice (some ⟨w4.heap.size, 0, none⟩) 0 0).ownBlock := by simp [Value.ownBlock]
          have R3 : some w4.heap.size ≠ (Value.slice (some ⟨w4.heap.size + 1, 0, none⟩) 0 0).ownBlock := by simp [Value.ownBlock]
          have X20 : ((w4.alloc (.cells #[] 48)).alloc (.cells #[.string t, .int .i64 m] 48)).drew.cell? ⟨w4.heap.size + 1, 0, none⟩ = some (.string t) := by
            have := World.cell?_alloc_new (w4.alloc (.cells #[] 48)) #[.string t, .int .i64 m] 48 0
            rw [World.size_alloc] at this; exact this
          have X21 : ((w4.alloc (.cells #[] 48)).alloc (.cells #[.string t, .int .i64 m] 48)).drew.cell? ⟨w4.heap.size + 1, 1, none⟩ = some (.int .i64 m) := by
            have := World.cell?_alloc_new (w4.alloc (.cells #[] 48)) #[.string t, .int .i64 m] 48 1
            rw [World.size_alloc] at this; exact this
          have X30 : ((w4.alloc (.cells #[.string t, .int .i64 m] 48)).alloc (.cells #[] 48)).drew.cell? ⟨w4.heap.size, 0, none⟩ = some (.string t) := (World.cell?_alloc_past _ _ _ (by simp)).trans (World.cell?_alloc_new w4 #[.string t, .int .i64 m] 48 0)
          have X31 : ((w4.alloc (.cells #[.string t, .int .i64 m] 48)).alloc (.cells #[] 48)).drew.cell? ⟨w4.heap.size, 1, none⟩ = some (.int .i64 m) := (World.cell?_alloc_past _ _ _ (by simp)).trans (World.cell?_alloc_new w4 #[.string t, .int .i64 m] 48 1)
          have PC := Lib.hid (put_cells HN.out)
          have hk0 : (0 : Int) ≤ (k : Int) := by omega
          have PL : Hid ((putL ps t m).length = k + 1 + (len - k)) := by have := put_length HN.out (by rw [H1.out]; omega); rw [H1.out] at this; exact this
          have M3 : k + 1 + (len - k) ≤ maxLen := by unfold maxLen; omega
          have N3 : (k + 1 + (len - k)) * 24 ≤ 140737488355328 := by omega
          have N7 : 0 < k + 1 + (len - k) := by omega
          have L3 : Hid ((cellsP (ps.drop k)).length = (len - k) * 2) := by unfold Hid; rw [cellsP_length, List.length_drop, H1.out]
          have hkc : (k : Int) ≤ (cap : Int) := by omega
          have hkli : (k : Int) ≤ (len : Int) := by omega
          have hck : ¬ cap = k := by omega
          go_region_law (first
            | (refine step_append_own (by rfl) _ _ _ (by rfl) w.heap.size 48 i0 (.agg #[.string ⟨#[]⟩, .int .i64 0]) 2 24 Tq.underlying23 hi hz0 hz1 hz2 rfl Nat.two_pos (.slice (some ⟨w4.heap.size, 0, none⟩) 0 0) 0 [] (by rfl) hE1.out ⟨b, off, none⟩ k _ (cellsP (ps.take k)) (by rfl) L1.out PA1.out (cellsP_one' _) M1 N1 S1 ?_; intro v5 w5 hown5 hgrow5 _; simp only [Nat.zero_add, List.nil_append] at hown5; obtain ⟨a5, c5, rfl⟩ := owns_slice hown5; have B5 : Hid (Below w.heap.size w w5) := BW1.grown hgrow5 BW1.size (fun j ej => own_ge ej S4); have O5 := Lib.hid hown5; clear hown5 hgrow5)
            | (refine step_append_own (by rfl) _ _ _ (by rfl) w.heap.size 48 i0 (.agg #[.string ⟨#[]⟩, .int .i64 0]) 2 24 Tq.underlying23 hi hz0 hz1 hz2 rfl Nat.two_pos (.slice (some ⟨w4.heap.size, 0, none⟩) 0 0) 0 [] (by rfl) hE2.out ⟨b, off, none⟩ k _ (cellsP (ps.take k)) (by rfl) L1.out PA2.out (cellsP_one' _) M1 N1 S2 ?_; intro v5 w5 hown5 hgrow5 _; simp only [Nat.zero_add, List.nil_append] at hown5; obtain ⟨a5, c5, rfl⟩ := owns_slice hown5; have B5 : Hid (Below w.heap.size w w5) := BW2.grown hgrow5 BW2.size (fun j ej => own_ge ej S4); have C5a : Hid (∀ j u, [Value.string t, .int .i64 m][j]? = some u → w5.cell? ((⟨w4.heap.size + 1, 0, none⟩ : Addr).add j) = some u) := kept_two hgrow5 Q2 R2 X20 X21; have O5 := Lib.hid hown5; clear hown5 hgrow5)
            | (refine step_append_own (by rfl) _ _ _ (by rfl) w.heap.size 48 i0 (.agg #[.string ⟨#[]⟩, .int .i64 0]) 2 24 Tq.underlying23 hi hz0 hz1 hz2 rfl Nat.two_pos (.slice (some ⟨w4.heap.size + 1, 0, none⟩) 0 0) 0 [] (by rfl) hE3.out ⟨b, off, none⟩ k _ (cellsP (ps.take k)) (by rfl) L1.out PA3.out (cellsP_one' _) M1 N1 S3 ?_; intro v5 w5 hown5 hgrow5 _; simp only [Nat.zero_add, List.nil_append] at hown5; obtain ⟨a5, c5, rfl⟩ := owns_slice hown5; have B5 : Hid (Below w.heap.size w w5) := BW3.grown hgrow5 BW3.size (fun j ej => own_ge ej S4s); have C5b : Hid (∀ j u, [Value.string t, .int .i64 m][j]? = some u → w5.cell? ((⟨w4.heap.size, 0, none⟩ : Addr).add j) = some u) := kept_two hgrow5 Q3 R3 X30 X31; have O5 := Lib.hid hown5; clear hown5 hgrow5)
            | (refine step_append_own (by rfl) _ _ _ (by rfl) w.heap.size 48 i0 (.agg #[.string ⟨#[]⟩, .int .i64 0]) 2 24 Tq.underlying23 hi hz0 hz1 hz2 rfl Nat.two_pos (.slice a5 k c5) k (cellsP (ps.take k)) (by rfl) (O5.out.alloc _) ⟨w5.heap.size, 0, none⟩ 1 1 [.string t, .int .i64 m] (by rfl) (by rfl) (two_new _ _ _ _) two_one M2 N2 (B5.out.alloc B5.out.size _).size ?_; intro v6 w6 hown6 hgrow6 _; obtain ⟨g6, c6, rfl⟩ := some_of_owns hown6 (Nat.succ_pos k); have B6 : Hid (Below w.heap.size w w6) := (B5.out.alloc B5.out.size _).grown hgrow6 (B5.out.alloc B5.out.size _).size (fun j ej => (O5.out.lt j ej).1); have O6 := Lib.hid hown6; clear hown6 hgrow6)
            | (refine step_append_own (by rfl) _ _ _ (by rfl) w.heap.size 48 i0 (.agg #[.string ⟨#[]⟩, .int .i64 0]) 2 24 Tq.underlying23 hi hz0 hz1 hz2 rfl Nat.two_pos (.slice a5 k c5) k (cellsP (ps.take k)) (by rfl) O5.out ⟨w4.heap.size + 1, 0, none⟩ 1 1 [.string t, .int .i64 m] (by rfl) (by rfl) C5a.out two_one M2 N2 B5.out.size ?_; intro v6 w6 hown6 hgrow6 _; obtain ⟨g6, c6, rfl⟩ := some_of_owns hown6 (Nat.succ_pos k); have B6 : Hid (Below w.heap.size w w6) := B5.out.grown hgrow6 B5.out.size (fun j ej => (O5.out.lt j ej).1); have O6 := Lib.hid hown6; clear hown6 hgrow6)
            | (refine step_append_own (by rfl) _ _ _ (by rfl) w.heap.size 48 i0 (.agg #[.string ⟨#[]⟩, .int .i64 0]) 2 24 Tq.underlying23 hi hz0 hz1 hz2 rfl Nat.two_pos (.slice a5 k c5) k (cellsP (ps.take k)) (by rfl) O5.out ⟨w4.heap.size, 0, none⟩ 1 1 [.string t, .int .i64 m] (by rfl) (by rfl) C5b.out two_one M2 N2 B5.out.size ?_; intro v6 w6 hown6 hgrow6 _; obtain ⟨g6, c6, rfl⟩ := some_of_owns hown6 (Nat.succ_pos k); have B6 : Hid (Below w.heap.size w w6) := B5.out.grown hgrow6 B5.out.size (fun j ej => (O5.out.lt j ej).1); have O6 := Lib.hid hown6; clear hown6 hgrow6)
            | (refine step_append_own (by rfl) _ _ _ (by rfl) w.heap.size 48 i0 (.agg #[.string ⟨#[]⟩, .int .i64 0]) 2 24 Tq.underlying23 hi hz0 hz1 hz2 rfl Nat.two_pos (.slice (some ⟨g6, 0, none⟩) (k + 1) c6) (k + 1) (cellsP (ps.take k) ++ [.string t, .int .i64 m]) (by rfl) O6.out ⟨b, off + k * 2, none⟩ (len - k) _ (cellsP (ps.drop k)) (by rfl) L3.out (drop_cells HI.out hbl hk B6.out) (cellsP_one' _) M3 N3 B6.out.size ?_; intro v7 w7 hown7 hgrow7 _; obtain ⟨g7, c7, rfl⟩ := some_of_owns hown7 N7; have B7 : Hid (Below w.heap.size w w7) := B6.out.grown hgrow7 B6.out.size (fun j ej => (O6.out.lt j ej).1); have O7 := Lib.hid hown7; clear hown7 hgrow7))
          all_goals
            go_wp2
            go_ret
            refine ⟨g7, c7, ?_, ?_, B7.out⟩
            · rw [PL.out]; rfl
            · rw [PL.out, ← PC.out]; exact O7.out
      · go_wp2
        exact ⟨⟨k + 1, by omega, by go_num, fun j hj => by
          rcases Nat.lt_or_ge j k with g | g
          · exact hL.out j g
          · have : j = k := by omega
            subst this; rw [HT.out]; exact hu⟩, by simp [intOf]; omega⟩
    · obtain rfl : k = len := by omega
      have HN : Hid (putL ps t m = ps.take k ++ (t, m) :: ps.drop k) := put_new hL.out (by rw [H1.out]; omega) (fun h => by rw [H1.out] at h; omega)
      go_wp2_with (first | (at_builtin; refine wpList_append_own _ rfl _ _ 23 rfl w.heap.size 48 i0 (.agg #[.string ⟨#[]⟩, .int .i64 0]) 2 24 Tq.underlying23 hi hz0 hz1 hz2 rfl Nat.two_pos _ _ _ rfl hE0.out ⟨b, off, none⟩ k _ (cellsP ps) rfl LP.out PA0.out (cellsP_one' _) MA NA SA ?_; intro v4 w4 hown4 hgrow4 _; simp only [Nat.zero_add, List.nil_append] at hown4; obtain ⟨a4, c4, rfl⟩ := owns_slice hown4; have B4 : Hid (Below w.heap.size w w4) := BW0.grown hgrow4 BW0.size (fun j ej => own_ge ej (Nat.le_refl _)); have O4 := Lib.hid hown4; clear hown4 hgrow4) | go_in)
      by_cases hck : cap = k
      · obtain rfl : k = cap := hck.symm
        have L1 : Hid ((cellsP (ps.take k)).length = k * 2) := by unfold Hid; rw [cellsP_length, List.length_take, H1.out]; omega
        have M1 : 0 + k ≤ maxLen := by unfold maxLen; omega
        have N1 : (0 + k) * 24 ≤ 140737488355328 := by omega
        have M2 : k + 1 ≤ maxLen := by unfold maxLen; omega
        have N2 : (k + 1) * 24 ≤ 140737488355328 := by omega
        have two_one : ∀ u ∈ [Value.string t, .int .i64 m], u.oneCell' = true := by simp [Value.oneCell']
        have S4 := B4.out.size
        have S4s : w.heap.size ≤ w4.heap.size + 1 := by omega
        have BW1 : Below w.heap.size w (w4.alloc (.cells #[] 48)).drew := (B4.out.alloc S4 _).drew
        have BW2 : Below w.heap.size w ((w4.alloc (.cells #[] 48)).alloc (.cells #[.string t, .int .i64 m] 48)).drew := ((B4.out.alloc S4 _).alloc (by simp; omega) _).drew
        have BW3 : Below w.heap.size w ((w4.alloc (.cells #[.string t, .int .i64 m] 48)).alloc (.cells #[] 48)).drew := ((B4.out.alloc S4 _).alloc (by simp; omega) _).drew
        have S1 := BW1.size
        have S2 := BW2.size
        have S3 := BW3.size
        have hE1 : Hid ((w4.alloc (.cells #[] 48)).drew.ownsRow w.heap.size 48 2 (.slice (some ⟨w4.heap.size, 0, none⟩) 0 0) 0 []) := (World.ownsRow_lit (base := w.heap.size) (e := 48) (size := 2) w4 #[] 0 S4 (by unfold maxLen; omega) rfl).drew
        have hE2 : Hid (((w4.alloc (.cells #[] 48)).alloc (.cells #[.string t, .int .i64 m] 48)).drew.ownsRow w.heap.size 48 2 (.slice (some ⟨w4.heap.size, 0, none⟩) 0 0) 0 []) := ((World.ownsRow_lit (base := w.heap.size) (e := 48) (size := 2) w4 #[] 0 S4 (by unfold maxLen; omega) rfl).alloc _).drew
        have hE3 : Hid (((w4.alloc (.cells #[.string t, .int .i64 m] 48)).alloc (.cells #[] 48)).drew.ownsRow w.heap.size 48 2 (.slice (some ⟨w4.heap.size + 1, 0, none⟩) 0 0) 0 []) := by
          have := (World.ownsRow_lit (base := w.heap.size) (e := 48) (size := 2) (w4.alloc (.cells #[.string t, .int .i64 m] 48)) #[] 0 (by simp; omega) (by unfold maxLen; omega) rfl).drew
          rwa [World.size_alloc] at this
        have PA1 := Lib.hid (take_cells HI.out hbl hk BW1)
        have PA2 := Lib.hid (take_cells HI.out hbl hk BW2)
        have PA3 := Lib.hid (take_cells HI.out hbl hk BW3)
        have Q2 : w4.heap.size + 1 < ((w4.alloc (.cells #[] 48)).alloc (.cells #[.string t, .int .i64 m] 48)).drew.heap.size := by rw [drew_size]; simp
        have Q3 : w4.heap.size < ((w4.alloc (.cells #[.string t, .int .i64 m] 48)).alloc (.cells #[] 48)).drew.heap.size := by rw [drew_size]; simp; omega
        have R2 : some (w4.heap.size + 1) ≠ (Value.slice (some ⟨w4.heap.size, 0, none⟩) 0 0).ownBlock := by simp [Value.ownBlock]
        have R3 : some w4.heap.size ≠ (Value.slice (some ⟨w4.heap.size + 1, 0, none⟩) 0 0).ownBlock := by simp [Value.ownBlock]
        have X20 : ((w4.alloc (.cells #[] 48)).alloc (.cells #[.string t, .int .i64 m] 48)).drew.cell? ⟨w4.heap.size + 1, 0, none⟩ = some (.string t) := by
          have := World.cell?_alloc_new (w4.alloc (.cells #[] 48)) #[.string t, .int .i64 m] 48 0
          rw [World.size_alloc] at this; exact this
        have X21 : ((w4.alloc (.cells #[] 48)).alloc (.cells #[.string t, .int .i64 m] 48)).drew.cell? ⟨w4.heap.size + 1, 1, none⟩ = some (.int .i64 m) := by
          have := World.cell?_alloc_new (w4.alloc (.cells #[] 48)) #[.string t, .int .i64 m] 48 1
          rw [World.size_alloc] at this; exact this
        have X30 : ((w4.alloc (.cells #[.string t, .int .i64 m] 48)).alloc (.cells #[] 48)).drew.cell? ⟨w4.heap.size, 0, none⟩ = some (.string t) := (World.cell?_alloc_past _ _ _ (by simp)).trans (World.cell?_alloc_new w4 #[.string t, .int .i64 m] 48 0)
        have X31 : ((w4.alloc (.cells #[.string t, .int .i64 m] 48)).alloc (.cells #[] 48)).drew.cell? ⟨w4.heap.size, 1, none⟩ = some (.int .i64 m) := (World.cell?_alloc_past _ _ _ (by simp)).trans (World.cell?_alloc_new w4 #[.string t, .int .i64 m] 48 1)
        have PC := Lib.hid (put_cells HN.out)
        have hk0 : (0 : Int) ≤ (k : Int) := by omega
        have PL : Hid ((putL ps t m).length = k + 1) := by have := put_length HN.out (by rw [H1.out]; omega); rw [H1.out, Nat.sub_self] at this; exact this
        have M3 : k + 1 + 0 ≤ maxLen := by unfold maxLen; omega
        have N3 : (k + 1 + 0) * 24 ≤ 140737488355328 := by omega
        have N7 : 0 < k + 1 + 0 := by omega
        have L3 : Hid ((cellsP (ps.drop k)).length = 0 * 2) := by unfold Hid; rw [cellsP_length, List.length_drop, H1.out]; simp
        have P3n : ps.length ≤ k := by rw [H1.out]; omega
        have P3n := Lib.hid P3n
        have hkc : (k : Int) ≤ (k : Int) := Int.le_refl _
        go_region_law (first
          | (refine step_append_own (by rfl) _ _ _ (by rfl) w.heap.size 48 i0 (.agg #[.string ⟨#[]⟩, .int .i64 0]) 2 24 Tq.underlying23 hi hz0 hz1 hz2 rfl Nat.two_pos (.slice (some ⟨w4.heap.size, 0, none⟩) 0 0) 0 [] (by rfl) hE1.out ⟨b, off, none⟩ k _ (cellsP (ps.take k)) (by rfl) L1.out PA1.out (cellsP_one' _) M1 N1 S1 ?_; intro v5 w5 hown5 hgrow5 _; simp only [Nat.zero_add, List.nil_append] at hown5; obtain ⟨a5, c5, rfl⟩ := owns_slice hown5; have B5 : Hid (Below w.heap.size w w5) := BW1.grown hgrow5 BW1.size (fun j ej => own_ge ej S4); have O5 := Lib.hid hown5; clear hown5 hgrow5)
          | (refine step_append_own (by rfl) _ _ _ (by rfl) w.heap.size 48 i0 (.agg #[.string ⟨#[]⟩, .int .i64 0]) 2 24 Tq.underlying23 hi hz0 hz1 hz2 rfl Nat.two_pos (.slice (some ⟨w4.heap.size, 0, none⟩) 0 0) 0 [] (by rfl) hE2.out ⟨b, off, none⟩ k _ (cellsP (ps.take k)) (by rfl) L1.out PA2.out (cellsP_one' _) M1 N1 S2 ?_; intro v5 w5 hown5 hgrow5 _; simp only [Nat.zero_add, List.nil_append] at hown5; obtain ⟨a5, c5, rfl⟩ := owns_slice hown5; have B5 : Hid (Below w.heap.size w w5) := BW2.grown hgrow5 BW2.size (fun j ej => own_ge ej S4); have C5a : Hid (∀ j u, [Value.string t, .int .i64 m][j]? = some u → w5.cell? ((⟨w4.heap.size + 1, 0, none⟩ : Addr).add j) = some u) := kept_two hgrow5 Q2 R2 X20 X21; have O5 := Lib.hid hown5; clear hown5 hgrow5)
          | (refine step_append_own (by rfl) _ _ _ (by rfl) w.heap.size 48 i0 (.agg #[.string ⟨#[]⟩, .int .i64 0]) 2 24 Tq.underlying23 hi hz0 hz1 hz2 rfl Nat.two_pos (.slice (some ⟨w4.heap.size + 1, 0, none⟩) 0 0) 0 [] (by rfl) hE3.out ⟨b, off, none⟩ k _ (cellsP (ps.take k)) (by rfl) L1.out PA3.out (cellsP_one' _) M1 N1 S3 ?_; intro v5 w5 hown5 hgrow5 _; simp only [Nat.zero_add, List.nil_append] at hown5; obtain ⟨a5, c5, rfl⟩ := owns_slice hown5; have B5 : Hid (Below w.heap.size w w5) := BW3.grown hgrow5 BW3.size (fun j ej => own_ge ej S4s); have C5b : Hid (∀ j u, [Value.string t, .int .i64 m][j]? = some u → w5.cell? ((⟨w4.heap.size, 0, none⟩ : Addr).add j) = some u) := kept_two hgrow5 Q3 R3 X30 X31; have O5 := Lib.hid hown5; clear hown5 hgrow5)
          | (refine step_append_own (by rfl) _ _ _ (by rfl) w.heap.size 48 i0 (.agg #[.string ⟨#[]⟩, .int .i64 0]) 2 24 Tq.underlying23 hi hz0 hz1 hz2 rfl Nat.two_pos (.slice a5 k c5) k (cellsP (ps.take k)) (by rfl) (O5.out.alloc _) ⟨w5.heap.size, 0, none⟩ 1 1 [.string t, .int .i64 m] (by rfl) (by rfl) (two_new _ _ _ _) two_one M2 N2 (B5.out.alloc B5.out.size _).size ?_; intro v6 w6 hown6 hgrow6 _; obtain ⟨g6, c6, rfl⟩ := some_of_owns hown6 (Nat.succ_pos k); have B6 : Hid (Below w.heap.size w w6) := (B5.out.alloc B5.out.size _).grown hgrow6 (B5.out.alloc B5.out.size _).size (fun j ej => (O5.out.lt j ej).1); have O6 := Lib.hid hown6; clear hown6 hgrow6)
          | (refine step_append_own (by rfl) _ _ _ (by rfl) w.heap.size 48 i0 (.agg #[.string ⟨#[]⟩, .int .i64 0]) 2 24 Tq.underlying23 hi hz0 hz1 hz2 rfl Nat.two_pos (.slice a5 k c5) k (cellsP (ps.take k)) (by rfl) O5.out ⟨w4.heap.size + 1, 0, none⟩ 1 1 [.string t, .int .i64 m] (by rfl) (by rfl) C5a.out two_one M2 N2 B5.out.size ?_; intro v6 w6 hown6 hgrow6 _; obtain ⟨g6, c6, rfl⟩ := some_of_owns hown6 (Nat.succ_pos k); have B6 : Hid (Below w.heap.size w w6) := B5.out.grown hgrow6 B5.out.size (fun j ej => (O5.out.lt j ej).1); have O6 := Lib.hid hown6; clear hown6 hgrow6)
          | (refine step_append_own (by rfl) _ _ _ (by rfl) w.heap.size 48 i0 (.agg #[.string ⟨#[]⟩, .int .i64 0]) 2 24 Tq.underlying23 hi hz0 hz1 hz2 rfl Nat.two_pos (.slice a5 k c5) k (cellsP (ps.take k)) (by rfl) O5.out ⟨w4.heap.size, 0, none⟩ 1 1 [.string t, .int .i64 m] (by rfl) (by rfl) C5b.out two_one M2 N2 B5.out.size ?_; intro v6 w6 hown6 hgrow6 _; obtain ⟨g6, c6, rfl⟩ := some_of_owns hown6 (Nat.succ_pos k); have B6 : Hid (Below w.heap.size w w6) := B5.out.grown hgrow6 B5.out.size (fun j ej => (O5.out.lt j ej).1); have O6 := Lib.hid hown6; clear hown6 hgrow6)
          | (refine step_append_own (by rfl) _ _ _ (by rfl) w.heap.size 48 i0 (.agg #[.string ⟨#[]⟩, .int .i64 0]) 2 24 Tq.underlying23 hi hz0 hz1 hz2 rfl Nat.two_pos (.slice (some ⟨g6, 0, none⟩) (k + 1) c6) (k + 1) (cellsP (ps.take k) ++ [.string t, .int .i64 m]) (by rfl) O6.out ⟨b, off, none⟩ 0 _ (cellsP (ps.drop k)) (by rfl) L3.out (no_cells P3n.out) (cellsP_one' _) M3 N3 B6.out.size ?_; intro v7 w7 hown7 hgrow7 _; obtain ⟨g7, c7, rfl⟩ := some_of_owns hown7 N7; have B7 : Hid (Below w.heap.size w w7) := B6.out.grown hgrow7 B6.out.size (fun j ej => (O6.out.lt j ej).1); have O7 := Lib.hid hown7; clear hown7 hgrow7))
        all_goals
          go_wp2
          go_ret
          refine ⟨g7, c7, ?_, ?_, B7.out⟩
          · rw [PL.out]; rfl
          · rw [PL.out, ← PC.out]; exact O7.out
      · have hkc : (k : Int) ≤ (cap : Int) := by omega
        have L1 : Hid ((cellsP (ps.take k)).length = k * 2) := by unfold Hid; rw [cellsP_length, List.length_take, H1.out]; omega
        have M1 : 0 + k ≤ maxLen := by unfold maxLen; omega
        have N1 : (0 + k) * 24 ≤ 140737488355328 := by omega
        have M2 : k + 1 ≤ maxLen := by unfold maxLen; omega
        have N2 : (k + 1) * 24 ≤ 140737488355328 := by omega
        have two_one : ∀ u ∈ [Value.string t, .int .i64 m], u.oneCell' = true := by simp [Value.oneCell']
        have S4 := B4.out.size
        have S4s : w.heap.size ≤ w4.heap.size + 1 := by omega
        have BW1 : Below w.heap.size w (w4.alloc (.cells #[] 48)).drew := (B4.out.alloc S4 _).drew
        have BW2 : Below w.heap.size w ((w4.alloc (.cells #[] 48)).alloc (.cells #[.string t, .int .i64 m] 48)).drew := ((B4.out.alloc S4 _).alloc (by simp; omega) _).drew
        have BW3 : Below w.heap.size w ((w4.alloc (.cells #[.string t, .int .i64 m] 48)).alloc (.cells #[] 48)).drew := ((B4.out.alloc S4 _).alloc (by simp; omega) _).drew
        have S1 := BW1.size
        have S2 := BW2.size
        have S3 := BW3.size
        have hE1 : Hid ((w4.alloc (.cells #[] 48)).drew.ownsRow w.heap.size 48 2 (.slice (some ⟨w4.heap.size, 0, none⟩) 0 0) 0 []) := (World.ownsRow_lit (base := w.heap.size) (e := 48) (size := 2) w4 #[] 0 S4 (by unfold maxLen; omega) rfl).drew
        have hE2 : Hid (((w4.alloc (.cells #[] 48)).alloc (.cells #[.string t, .int .i64 m] 48)).drew.ownsRow w.heap.size 48 2 (.slice (some ⟨w4.heap.size, 0, none⟩) 0 0) 0 []) := ((World.ownsRow_lit (base := w.heap.size) (e := 48) (size := 2) w4 #[] 0 S4 (by unfold maxLen; omega) rfl).alloc _).drew
        have hE3 : Hid (((w4.alloc (.cells #[.string t, .int .i64 m] 48)).alloc (.cells #[] 48)).drew.ownsRow w.heap.size 48 2 (.slice (some ⟨w4.heap.size + 1, 0, none⟩) 0 0) 0 []) := by
          have := (World.ownsRow_lit (base := w.heap.size) (e := 48) (size := 2) (w4.alloc (.cells #[.string t, .int .i64 m] 48)) #[] 0 (by simp; omega) (by unfold maxLen; omega) rfl).drew
          rwa [World.size_alloc] at this
        have PA1 := Lib.hid (take_cells HI.out hbl hk BW1)
        have PA2 := Lib.hid (take_cells HI.out hbl hk BW2)
        have PA3 := Lib.hid (take_cells HI.out hbl hk BW3)
        have Q2 : w4.heap.size + 1 < ((w4.alloc (.cells #[] 48)).alloc (.cells #[.string t, .int .i64 m] 48)).drew.heap.size := by rw [drew_size]; simp
        have Q3 : w4.heap.size < ((w4.alloc (.cells #[.string t, .int .i64 m] 48)).alloc (.cells #[] 48)).drew.heap.size := by rw [drew_size]; simp; omega
        have R2 : some (w4.heap.size + 1) ≠ (Value.slice (some ⟨w4.heap.size, 0, none⟩) 0 0).ownBlock := by simp [Value.ownBlock]
        have R3 : some w4.heap.size ≠ (Value.slice (some ⟨w4.heap.size + 1, 0, none⟩) 0 0).ownBlock := by simp [Value.ownBlock]
        have X20 : ((w4.alloc (.cells #[] 48)).alloc (.cells #[.string t, .int .i64 m] 48)).drew.cell? ⟨w4.heap.size + 1, 0, none⟩ = some (.string t) := by
          have := World.cell?_alloc_new (w4.alloc (.cells #[] 48)) #[.string t, .int .i64 m] 48 0
          rw [World.size_alloc] at this; exact this
        have X21 : ((w4.alloc (.cells #[] 48)).alloc (.cells #[.string t, .int .i64 m] 48)).drew.cell? ⟨w4.heap.size + 1, 1, none⟩ = some (.int .i64 m) := by
          have := World.cell?_alloc_new (w4.alloc (.cells #[] 48)) #[.string t, .int .i64 m] 48 1
          rw [World.size_alloc] at this; exact this
        have X30 : ((w4.alloc (.cells #[.string t, .int .i64 m] 48)).alloc (.cells #[] 48)).drew.cell? ⟨w4.heap.size, 0, none⟩ = some (.string t) := (World.cell?_alloc_past _ _ _ (by simp)).trans (World.cell?_alloc_new w4 #[.string t, .int .i64 m] 48 0)
        have X31 : ((w4.alloc (.cells #[.string t, .int .i64 m] 48)).alloc (.cells #[] 48)).drew.cell? ⟨w4.heap.size, 1, none⟩ = some (.int .i64 m) := (World.cell?_alloc_past _ _ _ (by simp)).trans (World.cell?_alloc_new w4 #[.string t, .int .i64 m] 48 1)
        have PC := Lib.hid (put_cells HN.out)
        have hk0 : (0 : Int) ≤ (k : Int) := by omega
        have PL : Hid ((putL ps t m).length = k + 1) := by have := put_length HN.out (by rw [H1.out]; omega); rw [H1.out, Nat.sub_self] at this; exact this
        have M3 : k + 1 + 0 ≤ maxLen := by unfold maxLen; omega
        have N3 : (k + 1 + 0) * 24 ≤ 140737488355328 := by omega
        have N7 : 0 < k + 1 + 0 := by omega
        have L3 : Hid ((cellsP (ps.drop k)).length = 0 * 2) := by unfold Hid; rw [cellsP_length, List.length_drop, H1.out]; simp
        have P3n : ps.length ≤ k := by rw [H1.out]; omega
        have P3n := Lib.hid P3n
        go_region_law (first
          | (refine step_append_own (by rfl) _ _ _ (by rfl) w.heap.size 48 i0 (.agg #[.string ⟨#[]⟩, .int .i64 0]) 2 24 Tq.underlying23 hi hz0 hz1 hz2 rfl Nat.two_pos (.slice (some ⟨w4.heap.size, 0, none⟩) 0 0) 0 [] (by rfl) hE1.out ⟨b, off, none⟩ k _ (cellsP (ps.take k)) (by rfl) L1.out PA1.out (cellsP_one' _) M1 N1 S1 ?_; intro v5 w5 hown5 hgrow5 _; simp only [Nat.zero_add, List.nil_append] at hown5; obtain ⟨a5, c5, rfl⟩ := owns_slice hown5; have B5 : Hid (Below w.heap.size w w5) := BW1.grown hgrow5 BW1.size (fun j ej => own_ge ej S4); have O5 := Lib.hid hown5; clear hown5 hgrow5)
          | (refine step_append_own (by rfl) _ _ _ (by rfl) w.heap.size 48 i0 (.agg #[.string ⟨#[]⟩, .int .i64 0]) 2 24 Tq.underlying23 hi hz0 hz1 hz2 rfl Nat.two_pos (.slice (some ⟨w4.heap.size, 0, none⟩) 0 0) 0 [] (by rfl) hE2.out ⟨b, off, none⟩ k _ (cellsP (ps.take k)) (by rfl) L1.out PA2.out (cellsP_one' _) M1 N1 S2 ?_; intro v5 w5 hown5 hgrow5 _; simp only [Nat.zero_add, List.nil_append] at hown5; obtain ⟨a5, c5, rfl⟩ := owns_slice hown5; have B5 : Hid (Below w.heap.size w w5) := BW2.grown hgrow5 BW2.size (fun j ej => own_ge ej S4); have C5a : Hid (∀ j u, [Value.string t, .int .i64 m][j]? = some u → w5.cell? ((⟨w4.heap.size + 1, 0, none⟩ : Addr).add j) = some u) := kept_two hgrow5 Q2 R2 X20 X21; have O5 := Lib.hid hown5; clear hown5 hgrow5)
          | (refine step_append_own (by rfl) _ _ _ (by rfl) w.heap.size 48 i0 (.agg #[.string ⟨#[]⟩, .int .i64 0]) 2 24 Tq.underlying23 hi hz0 hz1 hz2 rfl Nat.two_pos (.slice (some ⟨w4.heap.size + 1, 0, none⟩) 0 0) 0 [] (by rfl) hE3.out ⟨b, off, none⟩ k _ (cellsP (ps.take k)) (by rfl) L1.out PA3.out (cellsP_one' _) M1 N1 S3 ?_; intro v5 w5 hown5 hgrow5 _; simp only [Nat.zero_add, List.nil_append] at hown5; obtain ⟨a5, c5, rfl⟩ := owns_slice hown5; have B5 : Hid (Below w.heap.size w w5) := BW3.grown hgrow5 BW3.size (fun j ej => own_ge ej S4s); have C5b : Hid (∀ j u, [Value.string t, .int .i64 m][j]? = some u → w5.cell? ((⟨w4.heap.size, 0, none⟩ : Addr).add j) = some u) := kept_two hgrow5 Q3 R3 X30 X31; have O5 := Lib.hid hown5; clear hown5 hgrow5)
          | (refine step_append_own (by rfl) _ _ _ (by rfl) w.heap.size 48 i0 (.agg #[.string ⟨#[]⟩, .int .i64 0]) 2 24 Tq.underlying23 hi hz0 hz1 hz2 rfl Nat.two_pos (.slice a5 k c5) k (cellsP (ps.take k)) (by rfl) (O5.out.alloc _) ⟨w5.heap.size, 0, none⟩ 1 1 [.string t, .int .i64 m] (by rfl) (by rfl) (two_new _ _ _ _) two_one M2 N2 (B5.out.alloc B5.out.size _).size ?_; intro v6 w6 hown6 hgrow6 _; obtain ⟨g6, c6, rfl⟩ := some_of_owns hown6 (Nat.succ_pos k); have B6 : Hid (Below w.heap.size w w6) := (B5.out.alloc B5.out.size _).grown hgrow6 (B5.out.alloc B5.out.size _).size (fun j ej => (O5.out.lt j ej).1); have O6 := Lib.hid hown6; clear hown6 hgrow6)
          | (refine step_append_own (by rfl) _ _ _ (by rfl) w.heap.size 48 i0 (.agg #[.string ⟨#[]⟩, .int .i64 0]) 2 24 Tq.underlying23 hi hz0 hz1 hz2 rfl Nat.two_pos (.slice a5 k c5) k (cellsP (ps.take k)) (by rfl) O5.out ⟨w4.heap.size + 1, 0, none⟩ 1 1 [.string t, .int .i64 m] (by rfl) (by rfl) C5a.out two_one M2 N2 B5.out.size ?_; intro v6 w6 hown6 hgrow6 _; obtain ⟨g6, c6, rfl⟩ := some_of_owns hown6 (Nat.succ_pos k); have B6 : Hid (Below w.heap.size w w6) := B5.out.grown hgrow6 B5.out.size (fun j ej => (O5.out.lt j ej).1); have O6 := Lib.hid hown6; clear hown6 hgrow6)
          | (refine step_append_own (by rfl) _ _ _ (by rfl) w.heap.size 48 i0 (.agg #[.string ⟨#[]⟩, .int .i64 0]) 2 24 Tq.underlying23 hi hz0 hz1 hz2 rfl Nat.two_pos (.slice a5 k c5) k (cellsP (ps.take k)) (by rfl) O5.out ⟨w4.heap.size, 0, none⟩ 1 1 [.string t, .int .i64 m] (by rfl) (by rfl) C5b.out two_one M2 N2 B5.out.size ?_; intro v6 w6 hown6 hgrow6 _; obtain ⟨g6, c6, rfl⟩ := some_of_owns hown6 (Nat.succ_pos k); have B6 : Hid (Below w.heap.size w w6) := B5.out.grown hgrow6 B5.out.size (fun j ej => (O5.out.lt j ej).1); have O6 := Lib.hid hown6; clear hown6 hgrow6)
          | (refine step_append_own (by rfl) _ _ _ (by rfl) w.heap.size 48 i0 (.agg #[.string ⟨#[]⟩, .int .i64 0]) 2 24 Tq.underlying23 hi hz0 hz1 hz2 rfl Nat.two_pos (.slice (some ⟨g6, 0, none⟩) (k + 1) c6) (k + 1) (cellsP (ps.take k) ++ [.string t, .int .i64 m]) (by rfl) O6.out ⟨b, off + k * 2, none⟩ 0 _ (cellsP (ps.drop k)) (by rfl) L3.out (no_cells P3n.out) (cellsP_one' _) M3 N3 B6.out.size ?_; intro v7 w7 hown7 hgrow7 _; obtain ⟨g7, c7, rfl⟩ := some_of_owns hown7 N7; have B7 : Hid (Below w.heap.size w w7) := B6.out.grown hgrow7 B6.out.size (fun j ej => (O6.out.lt j ej).1); have O7 := Lib.hid hown7; clear hown7 hgrow7))
        all_goals
          go_wp2
          go_ret
          refine ⟨g7, c7, ?_, ?_, B7.out⟩
          · rw [PL.out]; rfl
          · rw [PL.out, ← PC.out]; exact O7.out

end Go.Proofs.Ytgkakgibgfehaaa
