/-
  spec.l3Put: ballots go to their pile, or into a new one; what it returns is memory of its own. For lists of piles with an address; numbers from 0 to 1000000.
  spec.PilesAdd: for lists of piles with an address and texts of at most 1048600 bytes; what it returns is memory of its own.
  The drawn ballots (l91Ballot): a new slice of at most ten ints, and a reader that has gone on. No condition but what each theorem says.
  Piles in a map from texts to numbers, and what is collected of it and sorted: as lists. No function of the seat.
  spec.PilesMerge, spec.l3Total, spec.PilesTotal: for lists of piles with texts of at most 1048600 bytes; what PilesMerge returns is memory of its own.
  l91Piles: the reader draws piles: some list of at most 13 piles, with texts of at most 1048600 bytes and numbers from 0 to 100, in memory of its own.
  What the drawn statements of piles get: DrawPilesValid, DrawPilesTotal, DrawPilesMerge, DrawPilesTurn, DrawPilesAdd.
  DERIVED: THE SHELF's CONTRACTS AT THIS DUMP, IN PLAIN WORDS (tools/lay-plain.mjs out of 'YtafnmongglhlaaaShelfHome.lean', which tools/lay-shelf.mjs wrote): THE SAME DECLARATIONS UNDER THE SAME NAMES: 'import', 'namespace', 'open', 'def', 'theorem' AND NOTHING ELSE: no command of the shelf's: FOR A HAND-IN. Each laying: the table of numbers ('.._ren') and one theorem, a field a fact of the dump's own or the kernel's comparison; each contract: ONE APPLICATION.
  impl's Pile.compare: the order of texts, byte by byte; impl.PilesValid: for every slice of piles with texts of at most 1048600 bytes. Neither writes into memory that was there.
-/
import Derived.Test.YtafnmongglhlaaaGrp4
import Derived.Maps.AppendAt
import Derived.Test.YtafnmongglhlaaaGrp3
import Derived.Deep.RegionLaw
import Derived.Deep.AppendLies
import Derived.Deep.RegionWith
import Derived.Laws.IdiomStrings
import Derived.Test.YtafnmongglhlaaaGrp2
import Derived.Maps.Ext
import Derived.Shelf.Small.Strs
import Derived.Sort.Statements
import Derived.Lib.Bytealg
import Derived.StillTailTactics
import Derived.Maps.RangeWalk
import Derived.Shelf.SlSortCmp.WholeK
import Derived.Test.YtafnmongglhlaaaProg
import Derived.Sort.Grow
namespace Go.Proofs.Ytafnmongglhlaaa
open Go.RowKit

theorem pile_info : (Try.prog.info? 49).map (fun i => (i.zero, i.size, i.bytes)) = some (some (.agg #[.string ⟨#[]⟩, .int .i64 0]), 2, 24) := by kernel_rfl
theorem cellsP_one' (ps : List Pl) : ∀ u ∈ cellsP ps, u.oneCell' = true := by
  induction ps with
  | nil => intro u hu; cases hu
  | cons p ps ih =>
    intro u hu
    rw [cellsP] at hu
    rcases List.mem_cons.1 hu with rfl | hu
    · rfl
    · rcases List.mem_cons.1 hu with rfl | hu
      · rfl
      · exact ih u hu
/-- The cells of a part of a slice of piles. -/
theorem part_cells {w : World} {b off len cap : Nat} {ps : List Pl} (h : IsPiles w (some ⟨b, off, none⟩) len cap ps) {w' : World} (hb : ∀ j, j < len * 2 → w'.cell? ⟨b, off + j, none⟩ = w.cell? ⟨b, off + j, none⟩) :
    ∀ j u, (cellsP ps)[j]? = some u → w'.cell? ((⟨b, off, none⟩ : Addr).add j) = some u := by
  intro j u hu
  have hj : j < len * 2 := by
    have := (List.getElem?_eq_some_iff.1 hu).1
    rw [cellsP_length, h.1] at this
    exact this
  rw [add_spot, hb j hj, h.cells j hj, hu]

theorem drew_size (w : World) : w.drew.heap.size = w.heap.size := rfl
/-- The cells of the first k piles, and of the others, in a world in which nothing that was there has turned. -/
theorem take_cells {w w' : World} {b off len cap k : Nat} {ps : List Pl} (h : IsPiles w (some ⟨b, off, none⟩) len cap ps) (hb : b < w.heap.size) (hk : k ≤ len) (hB : Below w.heap.size w w') :
    ∀ j u, (cellsP (ps.take k))[j]? = some u → w'.cell? ((⟨b, off, none⟩ : Addr).add j) = some u :=
  part_cells (h.take hk) fun j _ => hB.cell (p := ⟨b, off + j, none⟩) hb
theorem drop_cells {w w' : World} {b off len cap k : Nat} {ps : List Pl} (h : IsPiles w (some ⟨b, off, none⟩) len cap ps) (hb : b < w.heap.size) (hk : k ≤ len) (hB : Below w.heap.size w w') :
    ∀ j u, (cellsP (ps.drop k))[j]? = some u → w'.cell? ((⟨b, off + k * 2, none⟩ : Addr).add j) = some u :=
  part_cells (h.drop hk (Nat.le_refl _)) fun j _ => hB.cell (p := ⟨b, off + k * 2 + j, none⟩) hb
theorem no_cells {w' : World} {ad : Addr} {ps : List Pl} {k : Nat} (h : ps.length ≤ k) : ∀ j u, (cellsP (ps.drop k))[j]? = some u → w'.cell? (ad.add j) = some u := fun j u hu => by
  rw [List.drop_of_length_le h] at hu
  simp [cellsP] at hu
theorem own_ge {g n c base j : Nat} (h : (Value.slice (some ⟨g, 0, none⟩) n c).ownBlock = some j) (hg : base ≤ g) : base ≤ j := by cases h; exact hg
theorem kept_two {W w5 : World} {row : Option Nat} {q : Nat} {c1 c2 : Value} (hg : W.grownBy w5 row) (hq : q < W.heap.size) (hne : some q ≠ row) (h0 : W.cell? ⟨q, 0, none⟩ = some c1) (h1 : W.cell? ⟨q, 1, none⟩ = some c2) :
    ∀ j u, [c1, c2][j]? = some u → w5.cell? ((⟨q, 0, none⟩ : Addr).add j) = some u := by
  intro j u hu
  match j, hu with
  | 0, hu => simp at hu; subst hu; rw [add_spot]; exact (World.cell?_of_block (a := ⟨q, 0, none⟩) (hg.block q hq hne)).trans h0
  | 1, hu => simp at hu; subst hu; rw [add_spot]; exact (World.cell?_of_block (a := ⟨q, 1, none⟩) (hg.block q hq hne)).trans h1
theorem two_new (w : World) (c1 c2 : Value) (T : TypeId) : ∀ j u, [c1, c2][j]? = some u → (w.alloc (.cells #[c1, c2] T)).cell? ((⟨w.heap.size, 0, none⟩ : Addr).add j) = some u := by
  intro j u hu
  match j, hu with
  | 0, hu => simp at hu; subst hu; rw [add_spot]; exact World.cell?_alloc_new w _ _ 0
  | 1, hu => simp at hu; subst hu; rw [add_spot]; exact World.cell?_alloc_new w _ _ 1
theorem put_cells {ps : List Pl} {k : Nat} {t : ByteArray} {m : Int} (h : putL ps t m = ps.take k ++ (t, m) :: ps.drop k) : cellsP (ps.take k) ++ [.string t, .int .i64 m] ++ cellsP (ps.drop k) = cellsP (putL ps t m) := by
  rw [h, cellsP_app, cellsP]; simp
theorem put_length {ps : List Pl} {k : Nat} {t : ByteArray} {m : Int} (h : putL ps t m = ps.take k ++ (t, m) :: ps.drop k) (hk : k ≤ ps.length) : (putL ps t m).length = k + 1 + (ps.length - k) := by
  rw [h]; simp; omega
theorem some_of_owns {w : World} {base n size : Nat} {e : TypeId} {v : Value} {xs : List Value} (h : w.ownsRow base e size v n xs) (hn : 0 < n) : ∃ g c, v = .slice (some ⟨g, 0, none⟩) n c := by
  rcases h.2 with ⟨_, e0⟩ | ⟨g, c, _, e, _⟩
  · omega
  · exact ⟨g, c, e⟩

set_option maxRecDepth 100000 in
set_option maxHeartbeats 8000000 in
/-- **spec.l3Put** answers as putL does. -/
theorem l3Put_any (b off len cap : Nat) (ps : List Pl) (t : ByteArray) (m : Int) (w : World) (h : IsPiles w (some ⟨b, off, none⟩) len cap ps) (hbl : b < w.heap.size) (hlen : len ≤ 1000) (hps : ∀ i, 0 ≤ mAt ps i ∧ mAt ps i ≤ 1000000) (hm : 0 ≤ m ∧ m ≤ 1000000) :
    Calls Try.prog 103 #[.slice (some ⟨b, off, none⟩) len cap, .string t, .int .i64 m] w fun e w' => ∃ g cap', e = .returned (.slice (some ⟨g, 0, none⟩) (putL ps t m).length cap') ∧
      w'.ownsRow w.heap.size 49 2 (.slice (some ⟨g, 0, none⟩) (putL ps t m).length cap') (putL ps t m).length (cellsP (putL ps t m)) ∧ Below w.heap.size w w' := by
  obtain ⟨i0, hi, hz0, hz1, hz2⟩ := info_parts pile_info
  have hcap := h.2.1
  have HI := Lib.hid h
  have H1 := Lib.hid h.1
  have HP := Lib.hid hps
  have hcell : ∀ j, j < len → w.cell? ⟨b, off + j * 2, none⟩ = some (.string (tAt ps j)) ∧ w.cell? ⟨b, off + j * 2 + 1, none⟩ = some (.int .i64 (mAt ps j)) := fun j hj => by
    obtain ⟨b', off', e, _, hc⟩ := h.2.2.2 (by omega)
    cases e
    exact hc j hj
  have HC := Lib.hid hcell
  clear h hps hcell
  have BW0 : Below w.heap.size w (w.alloc (.cells #[] 49)) := (Below.refl _ w).alloc (Nat.le_refl _) _
  have SA := BW0.size
  have hE0 : Hid ((w.alloc (.cells #[] 49)).ownsRow w.heap.size 49 2 (.slice (some ⟨w.heap.size, 0, none⟩) 0 0) 0 []) := World.ownsRow_lit (base := w.heap.size) (e := 49) (size := 2) w #[] 0 (Nat.le_refl _) (by unfold maxLen; omega) rfl
  have LP : Hid ((cellsP ps).length = len * 2) := by unfold Hid; rw [cellsP_length, H1.out]
  have PA0 : Hid (∀ j u, (cellsP ps)[j]? = some u → (w.alloc (.cells #[] 49)).cell? ((⟨b, off, none⟩ : Addr).add j) = some u) := part_cells HI.out fun j _ => BW0.cell (p := ⟨b, off + j, none⟩) hbl
  have MA : 0 + len ≤ maxLen := by unfold maxLen; omega
  have NA : (0 + len) * 24 ≤ 140737488355328 := by omega
  go_enter Try.func103, Try.ntmps103
  go_wp2
  go_loop [7] (fun i => ∃ k : Nat, k ≤ len ∧ i = .int .i64 k ∧ Hid (∀ j, j < k → tl (tAt ps j) t = true)) (fun i => len - (intOf i).toNat)
  case atStart => exact ⟨0, Nat.zero_le _, rfl, fun j hj => by omega⟩
  case round =>
    obtain ⟨k, hk, rfl, hL⟩ := hrel
    by_cases hlt : k < len
    · obtain ⟨t', ht'⟩ : ∃ t', tAt ps k = t' := ⟨_, rfl⟩
      have c0 : w.cell? ⟨b, off + k * 2, none⟩ = some (.string t') := by rw [(HC.out k hlt).1, ht']
      have HT := Lib.hid ht'; clear ht'
      have hkl : decide ((k : Int) < (len : Int)) = true := decide_eq_true (by omega)
      cases hu : Op.bytesLess t'.toList t.toList
      · by_cases het : t' = t
        · subst het
          obtain ⟨m', hm'⟩ : ∃ m', mAt ps k = m' := ⟨_, rfl⟩
          have hm0 := HP.out k
          rw [hm'] at hm0
          have HN : Hid (putL ps t' m = ps.set k (t', m' + m)) := by unfold Hid; rw [← hm']; exact put_same hL.out (by rw [H1.out]; exact hlt) HT.out
          have HM := Lib.hid hm'; clear hm'
          have heq : (t'.toList == t'.toList) = true := by simp
          have hl0 : 0 < len := by omega
          have hk2 : k * 2 + 1 < len * 2 := by omega
          have hkk : (k : Int) ≤ (cap : Int) := by omega
          have HCM : Hid ((cellsP ps)[k * 2 + 1]? = some (.int .i64 m')) := by rw [Hid, ← HM.out]; exact cellsP_many ps k (by rw [H1.out]; exact hlt)
          have hw1 : IntKind.i64.wrap (m' + m) = m' + m := IntWalk.i64_in _ (by omega)
          go_wp2_with (first | (at_builtin; refine wpList_append_own _ rfl _ _ 23 rfl w.heap.size 49 i0 (.agg #[.string ⟨#[]⟩, .int .i64 0]) 2 24 Try.underlying23 hi hz0 hz1 hz2 rfl Nat.two_pos _ _ _ rfl hE0.out ⟨b, off, none⟩ len _ (cellsP ps) rfl LP.out PA0.out (cellsP_one' _) MA NA SA ?_; intro v4 w4 hown4 hgrow4 _; simp only [Nat.zero_add, List.nil_append] at hown4; obtain ⟨g4, c4, rfl⟩ := some_of_owns hown4 hl0; have B4 : Hid (Below w.heap.size w w4) := BW0.grown hgrow4 BW0.size (fun j ej => own_ge ej (Nat.le_refl _)); have d4 : w4.cell? ⟨b, off + k * 2, none⟩ = some (.string t') := (B4.out.cell (p := ⟨b, off + k * 2, none⟩) hbl).trans c0; have e4 : w4.cell? ⟨g4, k * 2 + 1, none⟩ = some (.int .i64 m') := (hown4.cellAt (k * 2 + 1) hk2).trans HCM.out; have f4 : w4.frozen? ⟨g4, k * 2 + 1, none⟩ = false := hown4.frozenAt (k * 2 + 1); have O4 := Lib.hid hown4; clear hown4 hgrow4) | go_in)
          go_ret
          have HS := O4.out.stored (k * 2 + 1) (.int .i64 (m' + m))
          rw [cellsP_set ps k (m' + m) (by rw [H1.out]; exact hlt), HT.out] at HS
          have hlen' : (putL ps t' m).length = len := by rw [HN.out, List.length_set, H1.out]
          refine ⟨g4, c4, by rw [hlen']; rfl, ?_, B4.out.grown HS.2 B4.out.size (fun j ej => by cases ej; exact (O4.out.lt g4 rfl).1)⟩
          rw [hlen', HN.out]
          exact HS.1
        · have HN : Hid (putL ps t m = ps.take k ++ (t, m) :: ps.drop k) := put_new hL.out (by rw [H1.out]; omega) (fun _ => ⟨by rw [HT.out]; exact hu, by rw [HT.out]; exact het⟩)
          have hne : (t'.toList == t.toList) = false := by rw [eq_text]; exact decide_eq_false het
          have hl0 : 0 < len := by omega
          go_wp2_with (first | (at_builtin; refine wpList_append_own _ rfl _ _ 23 rfl w.heap.size 49 i0 (.agg #[.string ⟨#[]⟩, .int .i64 0]) 2 24 Try.underlying23 hi hz0 hz1 hz2 rfl Nat.two_pos _ _ _ rfl hE0.out ⟨b, off, none⟩ len _ (cellsP ps) rfl LP.out PA0.out (cellsP_one' _) MA NA SA ?_; intro v4 w4 hown4 hgrow4 _; simp only [Nat.zero_add, List.nil_append] at hown4; obtain ⟨g4, c4, rfl⟩ := some_of_owns hown4 hl0; have B4 : Hid (Below w.heap.size w w4) := BW0.grown hgrow4 BW0.size (fun j ej => own_ge ej (Nat.le_refl _)); have d4 : w4.cell? ⟨b, off + k * 2, none⟩ = some (.string t') := (B4.out.cell (p := ⟨b, off + k * 2, none⟩) hbl).trans c0; have O4 := Lib.hid hown4; clear hown4 hgrow4) | go_in)
          have L1 : Hid ((cellsP (ps.take k)).length = k * 2) := by unfold Hid; rw [cellsP_length, List.length_take, H1.out]; omega
          have M1 : 0 + k ≤ maxLen := by unfold maxLen; omega
          have N1 : (0 + k) * 24 ≤ 140737488355328 := by omega
          have M2 : k + 1 ≤ maxLen := by unfold maxLen; omega
          have N2 : (k + 1) * 24 ≤ 140737488355328 := by omega
          have two_one : ∀ u ∈ [Value.string t, .int .i64 m], u.oneCell' = true := by simp [Value.oneCell']
          have S4 := B4.out.size
          have S4s : w.heap.size ≤ w4.heap.size + 1 := by omega
          have BW1 : Below w.heap.size w (w4.alloc (.cells #[] 49)).drew := (B4.out.alloc S4 _).drew
          have BW2 : Below w.heap.size w ((w4.alloc (.cells #[] 49)).alloc (.cells #[.string t, .int .i64 m] 49)).drew := ((B4.out.alloc S4 _).alloc (by simp; omega) _).drew
          have BW3 : Below w.heap.size w ((w4.alloc (.cells #[.string t, .int .i64 m] 49)).alloc (.cells #[] 49)).drew := ((B4.out.alloc S4 _).alloc (by simp; omega) _).drew
          have S1 := BW1.size
          have S2 := BW2.size
          have S3 := BW3.size
          have hE1 : Hid ((w4.alloc (.cells #[] 49)).drew.ownsRow w.heap.size 49 2 (.slice (some ⟨w4.heap.size, 0, none⟩) 0 0) 0 []) := (World.ownsRow_lit (base := w.heap.size) (e := 49) (size := 2) w4 #[] 0 S4 (by unfold maxLen; omega) rfl).drew
          have hE2 : Hid (((w4.alloc (.cells #[] 49)).alloc (.cells #[.string t, .int .i64 m] 49)).drew.ownsRow w.heap.size 49 2 (.slice (some ⟨w4.heap.size, 0, none⟩) 0 0) 0 []) := ((World.ownsRow_lit (base := w.heap.size) (e := 49) (size := 2) w4 #[] 0 S4 (by unfold maxLen; omega) rfl).alloc _).drew
          have hE3 : Hid (((w4.alloc (.cells #[.string t, .int .i64 m] 49)).alloc (.cells #[] 49)).drew.ownsRow w.heap.size 49 2 (.slice (some ⟨w4.heap.size + 1, 0, none⟩) 0 0) 0 []) := by
            have := (World.ownsRow_lit (base := w.heap.size) (e := 49) (size := 2) (w4.alloc (.cells #[.string t, .int .i64 m] 49)) #[] 0 (by simp; omega) (by unfold maxLen; omega) rfl).drew
            rwa [World.size_alloc] at this
          have PA1 := Lib.hid (take_cells HI.out hbl hk BW1)
          have PA2 := Lib.hid (take_cells HI.out hbl hk BW2)
          have PA3 := Lib.hid (take_cells HI.out hbl hk BW3)
          have Q2 : w4.heap.size + 1 < ((w4.alloc (.cells #[] 49)).alloc (.cells #[.string t, .int .i64 m] 49)).drew.heap.size := by rw [drew_size]; simp
          have Q3 : w4.heap.size < ((w4.alloc (.cells #[.string t, .int .i64 m] 49)).alloc (.cells #[] 49)).drew.heap.size := by rw [drew_size]; simp; omega
          have R2 : some (w4.heap.size + 1) ≠ (Value.slice (some ⟨w4.heap.size, 0, none⟩) 0 0).ownBlock := by simp [Value.ownBlock]
          have R3 : some w4.heap.size ≠ (Value.slice (some ⟨w4.heap.size + 1, 0, none⟩) 0 0).ownBlock := by simp [Value.ownBlock]
          have X20 : ((w4.alloc (.cells #[] 49)).alloc (.cells #[.string t, .int .i64 m] 49)).drew.cell? ⟨w4.heap.size + 1, 0, none⟩ = some (.string t) := by
            have := World.cell?_alloc_new (w4.alloc (.cells #[] 49)) #[.string t, .int .i64 m] 49 0
            rw [World.size_alloc] at this; exact this
          have X21 : ((w4.alloc (.cells #[] 49)).alloc (.cells #[.string t, .int .i64 m] 49)).drew.cell? ⟨w4.heap.size + 1, 1, none⟩ = some (.int .i64 m) := by
            have := World.cell?_alloc_new (w4.alloc (.cells #[] 49)) #[.string t, .int .i64 m] 49 1
            rw [World.size_alloc] at this; exact this
          have X30 : ((w4.alloc (.cells #[.string t, .int .i64 m] 49)).alloc (.cells #[] 49)).drew.cell? ⟨w4.heap.size, 0, none⟩ = some (.string t) := (World.cell?_alloc_past _ _ _ (by simp)).trans (World.cell?_alloc_new w4 #[.string t, .int .i64 m] 49 0)
          have X31 : ((w4.alloc (.cells #[.string t, .int .i64 m] 49)).alloc (.cells #[] 49)).drew.cell? ⟨w4.heap.size, 1, none⟩ = some (.int .i64 m) := (World.cell?_alloc_past _ _ _ (by simp)).trans (World.cell?_alloc_new w4 #[.string t, .int .i64 m] 49 1)
          have PC := Lib.hid (put_cells HN.out)
          have hk0 : (0 : Int) ≤ (k : Int) := by omega
          have PL : Hid ((putL ps t m).length = k + 1 + (len - k)) := by have := put_length HN.out (by rw [H1.out]; omega); rw [H1.out] at this; exact this
          have M3 : k + 1 + (len - k) ≤ maxLen := by unfold maxLen; omega
          have N3 : (k + 1 + (len - k)) * 24 ≤ 140737488355328 := by omega
          have N7 : 0 < k + 1 + (len - k) := by omega
          have L3 : Hid ((cellsP (ps.drop k)).length = (len - k) * 2) := by unfold Hid; rw [cellsP_length, List.length_drop, H1.out]
          have hkc : (k : Int) ≤ (cap : Int) := by omega
          have hkli : (k : Int) ≤ (len : Int) := by omega
          have hck : ¬ cap = k := by omega
          go_region_law (first
            | (refine step_append_own (by rfl) _ _ _ (by rfl) w.heap.size 49 i0 (.agg #[.string ⟨#[]⟩, .int .i64 0]) 2 24 Try.underlying23 hi hz0 hz1 hz2 rfl Nat.two_pos (.slice (some ⟨w4.heap.size, 0, none⟩) 0 0) 0 [] (by rfl) hE1.out ⟨b, off, none⟩ k _ (cellsP (ps.take k)) (by rfl) L1.out PA1.out (cellsP_one' _) M1 N1 S1 ?_; intro v5 w5 hown5 hgrow5 _; simp only [Nat.zero_add, List.nil_append] at hown5; obtain ⟨a5, c5, rfl⟩ := owns_slice hown5; have B5 : Hid (Below w.heap.size w w5) := BW1.grown hgrow5 BW1.size (fun j ej => own_ge ej S4); have O5 := Lib.hid hown5; clear hown5 hgrow5)
            | (refine step_append_own (by rfl) _ _ _ (by rfl) w.heap.size 49 i0 (.agg #[.string ⟨#[]⟩, .int .i64 0]) 2 24 Try.underlying23 hi hz0 hz1 hz2 rfl Nat.two_pos (.slice (some ⟨w4.heap.size, 0, none⟩) 0 0) 0 [] (by rfl) hE2.out ⟨b, off, none⟩ k _ (cellsP (ps.take k)) (by rfl) L1.out PA2.out (cellsP_one' _) M1 N1 S2 ?_; intro v5 w5 hown5 hgrow5 _; simp only [Nat.zero_add, List.nil_append] at hown5; obtain ⟨a5, c5, rfl⟩ := owns_slice hown5; have B5 : Hid (Below w.heap.size w w5) := BW2.grown hgrow5 BW2.size (fun j ej => own_ge ej S4); have C5a : Hid (∀ j u, [Value.string t, .int .i64 m][j]? = some u → w5.cell? ((⟨w4.heap.size + 1, 0, none⟩ : Addr).add j) = some u) := kept_two hgrow5 Q2 R2 X20 X21; have O5 := Lib.hid hown5; clear hown5 hgrow5)
            | (refine step_append_own (by rfl) _ _ _ (by rfl) w.heap.size 49 i0 (.agg #[.string ⟨#[]⟩, .int .i64 0]) 2 24 Try.underlying23 hi hz0 hz1 hz2 rfl Nat.two_pos (.slice (some ⟨w4.heap.size + 1, 0, none⟩) 0 0) 0 [] (by rfl) hE3.out ⟨b, off, none⟩ k _ (cellsP (ps.take k)) (by rfl) L1.out PA3.out (cellsP_one' _) M1 N1 S3 ?_; intro v5 w5 hown5 hgrow5 _; simp only [Nat.zero_add, List.nil_append] at hown5; obtain ⟨a5, c5, rfl⟩ := owns_slice hown5; have B5 : Hid (Below w.heap.size w w5) := BW3.grown hgrow5 BW3.size (fun j ej => own_ge ej S4s); have C5b : Hid (∀ j u, [Value.string t, .int .i64 m][j]? = some u → w5.cell? ((⟨w4.heap.size, 0, none⟩ : Addr).add j) = some u) := kept_two hgrow5 Q3 R3 X30 X31; have O5 := Lib.hid hown5; clear hown5 hgrow5)
            | (refine step_append_own (by rfl) _ _ _ (by rfl) w.heap.size 49 i0 (.agg #[.string ⟨#[]⟩, .int .i64 0]) 2 24 Try.underlying23 hi hz0 hz1 hz2 rfl Nat.two_pos (.slice a5 k c5) k (cellsP (ps.take k)) (by rfl) (O5.out.alloc _) ⟨w5.heap.size, 0, none⟩ 1 1 [.string t, .int .i64 m] (by rfl) (by rfl) (two_new _ _ _ _) two_one M2 N2 (B5.out.alloc B5.out.size _).size ?_; intro v6 w6 hown6 hgrow6 _; obtain ⟨g6, c6, rfl⟩ := some_of_owns hown6 (Nat.succ_pos k); have B6 : Hid (Below w.heap.size w w6) := (B5.out.alloc B5.out.size _).grown hgrow6 (B5.out.alloc B5.out.size _).size (fun j ej => (O5.out.lt j ej).1); have O6 := Lib.hid hown6; clear hown6 hgrow6)
            | (refine step_append_own (by rfl) _ _ _ (by rfl) w.heap.size 49 i0 (.agg #[.string ⟨#[]⟩, .int .i64 0]) 2 24 Try.underlying23 hi hz0 hz1 hz2 rfl Nat.two_pos (.slice a5 k c5) k (cellsP (ps.take k)) (by rfl) O5.out ⟨w4.heap.size + 1, 0, none⟩ 1 1 [.string t, .int .i64 m] (by rfl) (by rfl) C5a.out two_one M2 N2 B5.out.size ?_; intro v6 w6 hown6 hgrow6 _; obtain ⟨g6, c6, rfl⟩ := some_of_owns hown6 (Nat.succ_pos k); have B6 : Hid (Below w.heap.size w w6) := B5.out.grown hgrow6 B5.out.size (fun j ej => (O5.out.lt j ej).1); have O6 := Lib.hid hown6; clear hown6 hgrow6)
            | (refine step_append_own (by rfl) _ _ _ (by rfl) w.heap.size 49 i0 (.agg #[.string ⟨#[]⟩, .int .i64 0]) 2 24 Try.underlying23 hi hz0 hz1 hz2 rfl Nat.two_pos (.slice a5 k c5) k (cellsP (ps.take k)) (by rfl) O5.out ⟨w4.heap.size, 0, none⟩ 1 1 [.string t, .int .i64 m] (by rfl) (by rfl) C5b.out two_one M2 N2 B5.out.size ?_; intro v6 w6 hown6 hgrow6 _; obtain ⟨g6, c6, rfl⟩ := some_of_owns hown6 (Nat.succ_pos k); have B6 : Hid (Below w.heap.size w w6) := B5.out.grown hgrow6 B5.out.size (fun j ej => (O5.out.lt j ej).1); have O6 := Lib.hid hown6; clear hown6 hgrow6)
            | (refine step_append_own (by rfl) _ _ _ (by rfl) w.heap.size 49 i0 (.agg #[.string ⟨#[]⟩, .int .i64 0]) 2 24 Try.underlying23 hi hz0 hz1 hz2 rfl Nat.two_pos (.slice (some ⟨g6, 0, none⟩) (k + 1) c6) (k + 1) (cellsP (ps.take k) ++ [.string t, .int .i64 m]) (by rfl) O6.out ⟨b, off + k * 2, none⟩ (len - k) _ (cellsP (ps.drop k)) (by rfl) L3.out (drop_cells HI.out hbl hk B6.out) (cellsP_one' _) M3 N3 B6.out.size ?_; intro v7 w7 hown7 hgrow7 _; obtain ⟨g7, c7, rfl⟩ := some_of_owns hown7 N7; have B7 : Hid (Below w.heap.size w w7) := B6.out.grown hgrow7 B6.out.size (fun j ej => (O6.out.lt j ej).1); have O7 := Lib.hid hown7; clear hown7 hgrow7))
          all_goals
            go_wp2
            go_ret
            refine ⟨g7, c7, ?_, ?_, B7.out⟩
            · rw [PL.out]; rfl
            · rw [PL.out, ← PC.out]; exact O7.out
      · go_wp2
        exact ⟨⟨k + 1, by omega, by go_num, fun j hj => by
          rcases Nat.lt_or_ge j k with g | g
          · exact hL.out j g
          · have : j = k := by omega
            subst this; rw [HT.out]; exact hu⟩, by simp [intOf]; omega⟩
    · obtain rfl : k = len := by omega
      have HN : Hid (putL ps t m = ps.take k ++ (t, m) :: ps.drop k) := put_new hL.out (by rw [H1.out]; omega) (fun h => by rw [H1.out] at h; omega)
      go_wp2_with (first | (at_builtin; refine wpList_append_own _ rfl _ _ 23 rfl w.heap.size 49 i0 (.agg #[.string ⟨#[]⟩, .int .i64 0]) 2 24 Try.underlying23 hi hz0 hz1 hz2 rfl Nat.two_pos _ _ _ rfl hE0.out ⟨b, off, none⟩ k _ (cellsP ps) rfl LP.out PA0.out (cellsP_one' _) MA NA SA ?_; intro v4 w4 hown4 hgrow4 _; simp only [Nat.zero_add, List.nil_append] at hown4; obtain ⟨a4, c4, rfl⟩ := owns_slice hown4; have B4 : Hid (Below w.heap.size w w4) := BW0.grown hgrow4 BW0.size (fun j ej => own_ge ej (Nat.le_refl _)); have O4 := Lib.hid hown4; clear hown4 hgrow4) | go_in)
      by_cases hck : cap = k
      · obtain rfl : k = cap := hck.symm
        have L1 : Hid ((cellsP (ps.take k)).length = k * 2) := by unfold Hid; rw [cellsP_length, List.length_take, H1.out]; omega
        have M1 : 0 + k ≤ maxLen := by unfold maxLen; omega
        have N1 : (0 + k) * 24 ≤ 140737488355328 := by omega
        have M2 : k + 1 ≤ maxLen := by unfold maxLen; omega
        have N2 : (k + 1) * 24 ≤ 140737488355328 := by omega
        have two_one : ∀ u ∈ [Value.string t, .int .i64 m], u.oneCell' = true := by simp [Value.oneCell']
        have S4 := B4.out.size
        have S4s : w.heap.size ≤ w4.heap.size + 1 := by omega
        have BW1 : Below w.heap.size w (w4.alloc (.cells #[] 49)).drew := (B4.out.alloc S4 _).drew
        have BW2 : Below w.heap.size w ((w4.alloc (.cells #[] 49)).alloc (.cells #[.string t, .int .i64 m] 49)).drew := ((B4.out.alloc S4 _).alloc (by simp; omega) _).drew
        have BW3 : Below w.heap.size w ((w4.alloc (.cells #[.string t, .int .i64 m] 49)).alloc (.cells #[] 49)).drew := ((B4.out.alloc S4 _).alloc (by simp; omega) _).drew
        have S1 := BW1.size
        have S2 := BW2.size
        have S3 := BW3.size
        have hE1 : Hid ((w4.alloc (.cells #[] 49)).drew.ownsRow w.heap.size 49 2 (.slice (some ⟨w4.heap.size, 0, none⟩) 0 0) 0 []) := (World.ownsRow_lit (base := w.heap.size) (e := 49) (size := 2) w4 #[] 0 S4 (by unfold maxLen; omega) rfl).drew
        have hE2 : Hid (((w4.alloc (.cells #[] 49)).alloc (.cells #[.string t, .int .i64 m] 49)).drew.ownsRow w.heap.size 49 2 (.slice (some ⟨w4.heap.size, 0, none⟩) 0 0) 0 []) := ((World.ownsRow_lit (base := w.heap.size) (e := 49) (size := 2) w4 #[] 0 S4 (by unfold maxLen; omega) rfl).alloc _).drew
        have hE3 : Hid (((w4.alloc (.cells #[.string t, .int .i64 m] 49)).alloc (.cells #[] 49)).drew.ownsRow w.heap.size 49 2 (.slice (some ⟨w4.heap.size + 1, 0, none⟩) 0 0) 0 []) := by
          have := (World.ownsRow_lit (base := w.heap.size) (e := 49) (size := 2) (w4.alloc (.cells #[.string t, .int .i64 m] 49)) #[] 0 (by simp; omega) (by unfold maxLen; omega) rfl).drew
          rwa [World.size_alloc] at this
        have PA1 := Lib.hid (take_cells HI.out hbl hk BW1)
        have PA2 := Lib.hid (take_cells HI.out hbl hk BW2)
        have PA3 := Lib.hid (take_cells HI.out hbl hk BW3)
        have Q2 : w4.heap.size + 1 < ((w4.alloc (.cells #[] 49)).alloc (.cells #[.string t, .int .i64 m] 49)).drew.heap.size := by rw [drew_size]; simp
        have Q3 : w4.heap.size < ((w4.alloc (.cells #[.string t, .int .i64 m] 49)).alloc (.cells #[] 49)).drew.heap.size := by rw [drew_size]; simp; omega
        have R2 : some (w4.heap.size + 1) ≠ (Value.slice (some ⟨w4.heap.size, 0, none⟩) 0 0).ownBlock := by simp [Value.ownBlock]
        have R3 : some w4.heap.size ≠ (Value.slice (some ⟨w4.heap.size + 1, 0, none⟩) 0 0).ownBlock := by simp [Value.ownBlock]
        have X20 : ((w4.alloc (.cells #[] 49)).alloc (.cells #[.string t, .int .i64 m] 49)).drew.cell? ⟨w4.heap.size + 1, 0, none⟩ = some (.string t) := by
          have := World.cell?_alloc_new (w4.alloc (.cells #[] 49)) #[.string t, .int .i64 m] 49 0
          rw [World.size_alloc] at this; exact this
        have X21 : ((w4.alloc (.cells #[] 49)).alloc (.cells #[.string t, .int .i64 m] 49)).drew.cell? ⟨w4.heap.size + 1, 1, none⟩ = some (.int .i64 m) := by
          have := World.cell?_alloc_new (w4.alloc (.cells #[] 49)) #[.string t, .int .i64 m] 49 1
          rw [World.size_alloc] at this; exact this
        have X30 : ((w4.alloc (.cells #[.string t, .int .i64 m] 49)).alloc (.cells #[] 49)).drew.cell? ⟨w4.heap.size, 0, none⟩ = some (.string t) := (World.cell?_alloc_past _ _ _ (by simp)).trans (World.cell?_alloc_new w4 #[.string t, .int .i64 m] 49 0)
        have X31 : ((w4.alloc (.cells #[.string t, .int .i64 m] 49)).alloc (.cells #[] 49)).drew.cell? ⟨w4.heap.size, 1, none⟩ = some (.int .i64 m) := (World.cell?_alloc_past _ _ _ (by simp)).trans (World.cell?_alloc_new w4 #[.string t, .int .i64 m] 49 1)
        have PC := Lib.hid (put_cells HN.out)
        have hk0 : (0 : Int) ≤ (k : Int) := by omega
        have PL : Hid ((putL ps t m).length = k + 1) := by have := put_length HN.out (by rw [H1.out]; omega); rw [H1.out, Nat.sub_self] at this; exact this
        have M3 : k + 1 + 0 ≤ maxLen := by unfold maxLen; omega
        have N3 : (k + 1 + 0) * 24 ≤ 140737488355328 := by omega
        have N7 : 0 < k + 1 + 0 := by omega
        have L3 : Hid ((cellsP (ps.drop k)).length = 0 * 2) := by unfold Hid; rw [cellsP_length, List.length_drop, H1.out]; simp
        have P3n : ps.length ≤ k := by rw [H1.out]; omega
        have P3n := Lib.hid P3n
        have hkc : (k : Int) ≤ (k : Int) := Int.le_refl _
        go_region_law (first
          | (refine step_append_own (by rfl) _ _ _ (by rfl) w.heap.size 49 i0 (.agg #[.string ⟨#[]⟩, .int .i64 0]) 2 24 Try.underlying23 hi hz0 hz1 hz2 rfl Nat.two_pos (.slice (some ⟨w4.heap.size, 0, none⟩) 0 0) 0 [] (by rfl) hE1.out ⟨b, off, none⟩ k _ (cellsP (ps.take k)) (by rfl) L1.out PA1.out (cellsP_one' _) M1 N1 S1 ?_; intro v5 w5 hown5 hgrow5 _; simp only [Nat.zero_add, List.nil_append] at hown5; obtain ⟨a5, c5, rfl⟩ := owns_slice hown5; have B5 : Hid (Below w.heap.size w w5) := BW1.grown hgrow5 BW1.size (fun j ej => own_ge ej S4); have O5 := Lib.hid hown5; clear hown5 hgrow5)
          | (refine step_append_own (by rfl) _ _ _ (by rfl) w.heap.size 49 i0 (.agg #[.string ⟨#[]⟩, .int .i64 0]) 2 24 Try.underlying23 hi hz0 hz1 hz2 rfl Nat.two_pos (.slice (some ⟨w4.heap.size, 0, none⟩) 0 0) 0 [] (by rfl) hE2.out ⟨b, off, none⟩ k _ (cellsP (ps.take k)) (by rfl) L1.out PA2.out (cellsP_one' _) M1 N1 S2 ?_; intro v5 w5 hown5 hgrow5 _; simp only [Nat.zero_add, List.nil_append] at hown5; obtain ⟨a5, c5, rfl⟩ := owns_slice hown5; have B5 : Hid (Below w.heap.size w w5) := BW2.grown hgrow5 BW2.size (fun j ej => own_ge ej S4); have C5a : Hid (∀ j u, [Value.string t, .int .i64 m][j]? = some u → w5.cell? ((⟨w4.heap.size + 1, 0, none⟩ : Addr).add j) = some u) := kept_two hgrow5 Q2 R2 X20 X21; have O5 := Lib.hid hown5; clear hown5 hgrow5)
          | (refine step_append_own (by rfl) _ _ _ (by rfl) w.heap.size 49 i0 (.agg #[.string ⟨#[]⟩, .int .i64 0]) 2 24 Try.underlying23 hi hz0 hz1 hz2 rfl Nat.two_pos (.slice (some ⟨w4.heap.size + 1, 0, none⟩) 0 0) 0 [] (by rfl) hE3.out ⟨b, off, none⟩ k _ (cellsP (ps.take k)) (by rfl) L1.out PA3.out (cellsP_one' _) M1 N1 S3 ?_; intro v5 w5 hown5 hgrow5 _; simp only [Nat.zero_add, List.nil_append] at hown5; obtain ⟨a5, c5, rfl⟩ := owns_slice hown5; have B5 : Hid (Below w.heap.size w w5) := BW3.grown hgrow5 BW3.size (fun j ej => own_ge ej S4s); have C5b : Hid (∀ j u, [Value.string t, .int .i64 m][j]? = some u → w5.cell? ((⟨w4.heap.size, 0, none⟩ : Addr).add j) = some u) := kept_two hgrow5 Q3 R3 X30 X31; have O5 := Lib.hid hown5; clear hown5 hgrow5)
          | (refine step_append_own (by rfl) _ _ _ (by rfl) w.heap.size 49 i0 (.agg #[.string ⟨#[]⟩, .int .i64 0]) 2 24 Try.underlying23 hi hz0 hz1 hz2 rfl Nat.two_pos (.slice a5 k c5) k (cellsP (ps.take k)) (by rfl) (O5.out.alloc _) ⟨w5.heap.size, 0, none⟩ 1 1 [.string t, .int .i64 m] (by rfl) (by rfl) (two_new _ _ _ _) two_one M2 N2 (B5.out.alloc B5.out.size _).size ?_; intro v6 w6 hown6 hgrow6 _; obtain ⟨g6, c6, rfl⟩ := some_of_owns hown6 (Nat.succ_pos k); have B6 : Hid (Below w.heap.size w w6) := (B5.out.alloc B5.out.size _).grown hgrow6 (B5.out.alloc B5.out.size _).size (fun j ej => (O5.out.lt j ej).1); have O6 := Lib.hid hown6; clear hown6 hgrow6)
          | (refine step_append_own (by rfl) _ _ _ (by rfl) w.heap.size 49 i0 (.agg #[.string ⟨#[]⟩, .int .i64 0]) 2 24 Try.underlying23 hi hz0 hz1 hz2 rfl Nat.two_pos (.slice a5 k c5) k (cellsP (ps.take k)) (by rfl) O5.out ⟨w4.heap.size + 1, 0, none⟩ 1 1 [.string t, .int .i64 m] (by rfl) (by rfl) C5a.out two_one M2 N2 B5.out.size ?_; intro v6 w6 hown6 hgrow6 _; obtain ⟨g6, c6, rfl⟩ := some_of_owns hown6 (Nat.succ_pos k); have B6 : Hid (Below w.heap.size w w6) := B5.out.grown hgrow6 B5.out.size (fun j ej => (O5.out.lt j ej).1); have O6 := Lib.hid hown6; clear hown6 hgrow6)
          | (refine step_append_own (by rfl) _ _ _ (by rfl) w.heap.size 49 i0 (.agg #[.string ⟨#[]⟩, .int .i64 0]) 2 24 Try.underlying23 hi hz0 hz1 hz2 rfl Nat.two_pos (.slice a5 k c5) k (cellsP (ps.take k)) (by rfl) O5.out ⟨w4.heap.size, 0, none⟩ 1 1 [.string t, .int .i64 m] (by rfl) (by rfl) C5b.out two_one M2 N2 B5.out.size ?_; intro v6 w6 hown6 hgrow6 _; obtain ⟨g6, c6, rfl⟩ := some_of_owns hown6 (Nat.succ_pos k); have B6 : Hid (Below w.heap.size w w6) := B5.out.grown hgrow6 B5.out.size (fun j ej => (O5.out.lt j ej).1); have O6 := Lib.hid hown6; clear hown6 hgrow6)
          | (refine step_append_own (by rfl) _ _ _ (by rfl) w.heap.size 49 i0 (.agg #[.string ⟨#[]⟩, .int .i64 0]) 2 24 Try.underlying23 hi hz0 hz1 hz2 rfl Nat.two_pos (.slice (some ⟨g6, 0, none⟩) (k + 1) c6) (k + 1) (cellsP (ps.take k) ++ [.string t, .int .i64 m]) (by rfl) O6.out ⟨b, off, none⟩ 0 _ (cellsP (ps.drop k)) (by rfl) L3.out (no_cells P3n.out) (cellsP_one' _) M3 N3 B6.out.size ?_; intro v7 w7 hown7 hgrow7 _; obtain ⟨g7, c7, rfl⟩ := some_of_owns hown7 N7; have B7 : Hid (Below w.heap.size w w7) := B6.out.grown hgrow7 B6.out.size (fun j ej => (O6.out.lt j ej).1); have O7 := Lib.hid hown7; clear hown7 hgrow7))
        all_goals
          go_wp2
          go_ret
          refine ⟨g7, c7, ?_, ?_, B7.out⟩
          · rw [PL.out]; rfl
          · rw [PL.out, ← PC.out]; exact O7.out
      · have hkc : (k : Int) ≤ (cap : Int) := by omega
        have L1 : Hid ((cellsP (ps.take k)).length = k * 2) := by unfold Hid; rw [cellsP_length, List.length_take, H1.out]; omega
        have M1 : 0 + k ≤ maxLen := by unfold maxLen; omega
        have N1 : (0 + k) * 24 ≤ 140737488355328 := by omega
        have M2 : k + 1 ≤ maxLen := by unfold maxLen; omega
        have N2 : (k + 1) * 24 ≤ 140737488355328 := by omega
        have two_one : ∀ u ∈ [Value.string t, .int .i64 m], u.oneCell' = true := by simp [Value.oneCell']
        have S4 := B4.out.size
        have S4s : w.heap.size ≤ w4.heap.size + 1 := by omega
        have BW1 : Below w.heap.size w (w4.alloc (.cells #[] 49)).drew := (B4.out.alloc S4 _).drew
        have BW2 : Below w.heap.size w ((w4.alloc (.cells #[] 49)).alloc (.cells #[.string t, .int .i64 m] 49)).drew := ((B4.out.alloc S4 _).alloc (by simp; omega) _).drew
        have BW3 : Below w.heap.size w ((w4.alloc (.cells #[.string t, .int .i64 m] 49)).alloc (.cells #[] 49)).drew := ((B4.out.alloc S4 _).alloc (by simp; omega) _).drew
        have S1 := BW1.size
        have S2 := BW2.size
        have S3 := BW3.size
        have hE1 : Hid ((w4.alloc (.cells #[] 49)).drew.ownsRow w.heap.size 49 2 (.slice (some ⟨w4.heap.size, 0, none⟩) 0 0) 0 []) := (World.ownsRow_lit (base := w.heap.size) (e := 49) (size := 2) w4 #[] 0 S4 (by unfold maxLen; omega) rfl).drew
        have hE2 : Hid (((w4.alloc (.cells #[] 49)).alloc (.cells #[.string t, .int .i64 m] 49)).drew.ownsRow w.heap.size 49 2 (.slice (some ⟨w4.heap.size, 0, none⟩) 0 0) 0 []) := ((World.ownsRow_lit (base := w.heap.size) (e := 49) (size := 2) w4 #[] 0 S4 (by unfold maxLen; omega) rfl).alloc _).drew
        have hE3 : Hid (((w4.alloc (.cells #[.string t, .int .i64 m] 49)).alloc (.cells #[] 49)).drew.ownsRow w.heap.size 49 2 (.slice (some ⟨w4.heap.size + 1, 0, none⟩) 0 0) 0 []) := by
          have := (World.ownsRow_lit (base := w.heap.size) (e := 49) (size := 2) (w4.alloc (.cells #[.string t, .int .i64 m] 49)) #[] 0 (by simp; omega) (by unfold maxLen; omega) rfl).drew
          rwa [World.size_alloc] at this
        have PA1 := Lib.hid (take_cells HI.out hbl hk BW1)
        have PA2 := Lib.hid (take_cells HI.out hbl hk BW2)
        have PA3 := Lib.hid (take_cells HI.out hbl hk BW3)
        have Q2 : w4.heap.size + 1 < ((w4.alloc (.cells #[] 49)).alloc (.cells #[.string t, .int .i64 m] 49)).drew.heap.size := by rw [drew_size]; simp
        have Q3 : w4.heap.size < ((w4.alloc (.cells #[.string t, .int .i64 m] 49)).alloc (.cells #[] 49)).drew.heap.size := by rw [drew_size]; simp; omega
        have R2 : some (w4.heap.size + 1) ≠ (Value.slice (some ⟨w4.heap.size, 0, none⟩) 0 0).ownBlock := by simp [Value.ownBlock]
        have R3 : some w4.heap.size ≠ (Value.slice (some ⟨w4.heap.size + 1, 0, none⟩) 0 0).ownBlock := by simp [Value.ownBlock]
        have X20 : ((w4.alloc (.cells #[] 49)).alloc (.cells #[.string t, .int .i64 m] 49)).drew.cell? ⟨w4.heap.size + 1, 0, none⟩ = some (.string t) := by
          have := World.cell?_alloc_new (w4.alloc (.cells #[] 49)) #[.string t, .int .i64 m] 49 0
          rw [World.size_alloc] at this; exact this
        have X21 : ((w4.alloc (.cells #[] 49)).alloc (.cells #[.string t, .int .i64 m] 49)).drew.cell? ⟨w4.heap.size + 1, 1, none⟩ = some (.int .i64 m) := by
          have := World.cell?_alloc_new (w4.alloc (.cells #[] 49)) #[.string t, .int .i64 m] 49 1
          rw [World.size_alloc] at this; exact this
        have X30 : ((w4.alloc (.cells #[.string t, .int .i64 m] 49)).alloc (.cells #[] 49)).drew.cell? ⟨w4.heap.size, 0, none⟩ = some (.string t) := (World.cell?_alloc_past _ _ _ (by simp)).trans (World.cell?_alloc_new w4 #[.string t, .int .i64 m] 49 0)
        have X31 : ((w4.alloc (.cells #[.string t, .int .i64 m] 49)).alloc (.cells #[] 49)).drew.cell? ⟨w4.heap.size, 1, none⟩ = some (.int .i64 m) := (World.cell?_alloc_past _ _ _ (by simp)).trans (World.cell?_alloc_new w4 #[.string t, .int .i64 m] 49 1)
        have PC := Lib.hid (put_cells HN.out)
        have hk0 : (0 : Int) ≤ (k : Int) := by omega
        have PL : Hid ((putL ps t m).length = k + 1) := by have := put_length HN.out (by rw [H1.out]; omega); rw [H1.out, Nat.sub_self] at this; exact this
        have M3 : k + 1 + 0 ≤ maxLen := by unfold maxLen; omega
        have N3 : (k + 1 + 0) * 24 ≤ 140737488355328 := by omega
        have N7 : 0 < k + 1 + 0 := by omega
        have L3 : Hid ((cellsP (ps.drop k)).length = 0 * 2) := by unfold Hid; rw [cellsP_length, List.length_drop, H1.out]; simp
        have P3n : ps.length ≤ k := by rw [H1.out]; omega
        have P3n := Lib.hid P3n
        go_region_law (first
          | (refine step_append_own (by rfl) _ _ _ (by rfl) w.heap.size 49 i0 (.agg #[.string ⟨#[]⟩, .int .i64 0]) 2 24 Try.underlying23 hi hz0 hz1 hz2 rfl Nat.two_pos (.slice (some ⟨w4.heap.size, 0, none⟩) 0 0) 0 [] (by rfl) hE1.out ⟨b, off, none⟩ k _ (cellsP (ps.take k)) (by rfl) L1.out PA1.out (cellsP_one' _) M1 N1 S1 ?_; intro v5 w5 hown5 hgrow5 _; simp only [Nat.zero_add, List.nil_append] at hown5; obtain ⟨a5, c5, rfl⟩ := owns_slice hown5; have B5 : Hid (Below w.heap.size w w5) := BW1.grown hgrow5 BW1.size (fun j ej => own_ge ej S4); have O5 := Lib.hid hown5; clear hown5 hgrow5)
          | (refine step_append_own (by rfl) _ _ _ (by rfl) w.heap.size 49 i0 (.agg #[.string ⟨#[]⟩, .int .i64 0]) 2 24 Try.underlying23 hi hz0 hz1 hz2 rfl Nat.two_pos (.slice (some ⟨w4.heap.size, 0, none⟩) 0 0) 0 [] (by rfl) hE2.out ⟨b, off, none⟩ k _ (cellsP (ps.take k)) (by rfl) L1.out PA2.out (cellsP_one' _) M1 N1 S2 ?_; intro v5 w5 hown5 hgrow5 _; simp only [Nat.zero_add, List.nil_append] at hown5; obtain ⟨a5, c5, rfl⟩ := owns_slice hown5; have B5 : Hid (Below w.heap.size w w5) := BW2.grown hgrow5 BW2.size (fun j ej => own_ge ej S4); have C5a : Hid (∀ j u, [Value.string t, .int .i64 m][j]? = some u → w5.cell? ((⟨w4.heap.size + 1, 0, none⟩ : Addr).add j) = some u) := kept_two hgrow5 Q2 R2 X20 X21; have O5 := Lib.hid hown5; clear hown5 hgrow5)
          | (refine step_append_own (by rfl) _ _ _ (by rfl) w.heap.size 49 i0 (.agg #[.string ⟨#[]⟩, .int .i64 0]) 2 24 Try.underlying23 hi hz0 hz1 hz2 rfl Nat.two_pos (.slice (some ⟨w4.heap.size + 1, 0, none⟩) 0 0) 0 [] (by rfl) hE3.out ⟨b, off, none⟩ k _ (cellsP (ps.take k)) (by rfl) L1.out PA3.out (cellsP_one' _) M1 N1 S3 ?_; intro v5 w5 hown5 hgrow5 _; simp only [Nat.zero_add, List.nil_append] at hown5; obtain ⟨a5, c5, rfl⟩ := owns_slice hown5; have B5 : Hid (Below w.heap.size w w5) := BW3.grown hgrow5 BW3.size (fun j ej => own_ge ej S4s); have C5b : Hid (∀ j u, [Value.string t, .int .i64 m][j]? = some u → w5.cell? ((⟨w4.heap.size, 0, none⟩ : Addr).add j) = some u) := kept_two hgrow5 Q3 R3 X30 X31; have O5 := Lib.hid hown5; clear hown5 hgrow5)
          | (refine step_append_own (by rfl) _ _ _ (by rfl) w.heap.size 49 i0 (.agg #[.string ⟨#[]⟩, .int .i64 0]) 2 24 Try.underlying23 hi hz0 hz1 hz2 rfl Nat.two_pos (.slice a5 k c5) k (cellsP (ps.take k)) (by rfl) (O5.out.alloc _) ⟨w5.heap.size, 0, none⟩ 1 1 [.string t, .int .i64 m] (by rfl) (by rfl) (two_new _ _ _ _) two_one M2 N2 (B5.out.alloc B5.out.size _).size ?_; intro v6 w6 hown6 hgrow6 _; obtain ⟨g6, c6, rfl⟩ := some_of_owns hown6 (Nat.succ_pos k); have B6 : Hid (Below w.heap.size w w6) := (B5.out.alloc B5.out.size _).grown hgrow6 (B5.out.alloc B5.out.size _).size (fun j ej => (O5.out.lt j ej).1); have O6 := Lib.hid hown6; clear hown6 hgrow6)
          | (refine step_append_own (by rfl) _ _ _ (by rfl) w.heap.size 49 i0 (.agg #[.string ⟨#[]⟩, .int .i64 0]) 2 24 Try.underlying23 hi hz0 hz1 hz2 rfl Nat.two_pos (.slice a5 k c5) k (cellsP (ps.take k)) (by rfl) O5.out ⟨w4.heap.size + 1, 0, none⟩ 1 1 [.string t, .int .i64 m] (by rfl) (by rfl) C5a.out two_one M2 N2 B5.out.size ?_; intro v6 w6 hown6 hgrow6 _; obtain ⟨g6, c6, rfl⟩ := some_of_owns hown6 (Nat.succ_pos k); have B6 : Hid (Below w.heap.size w w6) := B5.out.grown hgrow6 B5.out.size (fun j ej => (O5.out.lt j ej).1); have O6 := Lib.hid hown6; clear hown6 hgrow6)
          | (refine step_append_own (by rfl) _ _ _ (by rfl) w.heap.size 49 i0 (.agg #[.string ⟨#[]⟩, .int .i64 0]) 2 24 Try.underlying23 hi hz0 hz1 hz2 rfl Nat.two_pos (.slice a5 k c5) k (cellsP (ps.take k)) (by rfl) O5.out ⟨w4.heap.size, 0, none⟩ 1 1 [.string t, .int .i64 m] (by rfl) (by rfl) C5b.out two_one M2 N2 B5.out.size ?_; intro v6 w6 hown6 hgrow6 _; obtain ⟨g6, c6, rfl⟩ := some_of_owns hown6 (Nat.succ_pos k); have B6 : Hid (Below w.heap.size w w6) := B5.out.grown hgrow6 B5.out.size (fun j ej => (O5.out.lt j ej).1); have O6 := Lib.hid hown6; clear hown6 hgrow6)
          | (refine step_append_own (by rfl) _ _ _ (by rfl) w.heap.size 49 i0 (.agg #[.string ⟨#[]⟩, .int .i64 0]) 2 24 Try.underlying23 hi hz0 hz1 hz2 rfl Nat.two_pos (.slice (some ⟨g6, 0, none⟩) (k + 1) c6) (k + 1) (cellsP (ps.take k) ++ [.string t, .int .i64 m]) (by rfl) O6.out ⟨b, off + k * 2, none⟩ 0 _ (cellsP (ps.drop k)) (by rfl) L3.out (no_cells P3n.out) (cellsP_one' _) M3 N3 B6.out.size ?_; intro v7 w7 hown7 hgrow7 _; obtain ⟨g7, c7, rfl⟩ := some_of_owns hown7 N7; have B7 : Hid (Below w.heap.size w w7) := B6.out.grown hgrow7 B6.out.size (fun j ej => (O6.out.lt j ej).1); have O7 := Lib.hid hown7; clear hown7 hgrow7))
        all_goals
          go_wp2
          go_ret
          refine ⟨g7, c7, ?_, ?_, B7.out⟩
          · rw [PL.out]; rfl
          · rw [PL.out, ← PC.out]; exact O7.out

end Go.Proofs.Ytafnmongglhlaaa

namespace Go.Proofs.Ytafnmongglhlaaa
open Go.RowKit

/-- Piles of the call's own, and whether. -/
def GaveP (w : World) (r : List Pl) (ok : Bool) (e : Ending) (w' : World) : Prop :=
  ∃ a cap, e = .returned (.tuple #[.slice a r.length cap, .bool ok]) ∧ w'.ownsRow w.heap.size 49 2 (.slice a r.length cap) r.length (cellsP r) ∧ Below w.heap.size w w' ∧ (ok = true → ∃ g, a = some ⟨g, 0, none⟩)
theorem specPiles_as (a : Option Addr) (len cap : Nat) (ps : List Pl) (v : Bool) (w : World) (h : IsPiles w a len cap ps) (hs : Small ps) (hv : pilesB ps = v) :
    Calls Try.prog 101 #[.slice a len cap] w fun e w' => e = .returned (.bool v) ∧ Below w.heap.size w w' := by subst hv; exact specPiles_any a len cap ps w h hs
theorem Small.put {ps : List Pl} {t : ByteArray} {m : Int} (h : Small ps) (ht : t.size ≤ 1048600) : Small (putL ps t m) := Small.of fun q hq => by
  rcases put_texts q hq with e | ⟨p, hp, e⟩
  · rw [e]; exact ht
  · rw [← e]
    obtain ⟨i, hi, rfl⟩ := List.mem_iff_getElem.1 hp
    have := h i
    unfold tAt at this
    simpa [hi] using this
theorem mAt_valid {ps : List Pl} (h : pilesB ps = true) (i : Nat) : 0 ≤ mAt ps i ∧ mAt ps i ≤ 99 := by
  have hp := pilesB_pos h
  unfold mAt
  cases e : ps[i]? with
  | none => simp
  | some p => have h1 := hp.2.1 p (List.mem_of_getElem? e); have h2 := hp.2.2.1 p (List.mem_of_getElem? e); simp; omega
theorem mAt_wide {ps : List Pl} (h : ∀ i, 0 ≤ mAt ps i ∧ mAt ps i ≤ 99) : ∀ i, 0 ≤ mAt ps i ∧ mAt ps i ≤ 1000000 := fun i => ⟨(h i).1, by have := (h i).2; omega⟩
theorem ret_piles {a a' : Option Addr} {n n' c : Nat} {b b' : Bool} (h : a = a') (hn : n = n') (hb : b = b') : Ending.returned (.tuple #[.slice a n c, .bool b]) = .returned (.tuple #[.slice a' n' c, .bool b']) := by rw [h, hn, hb]
theorem empty_lit (w : World) (T : TypeId) (base : Nat) (h : base ≤ w.heap.size) : (w.alloc (.cells #[] T)).ownsRow base T 2 (.slice (some ⟨w.heap.size, 0, none⟩) 0 0) 0 [] := World.ownsRow_lit (base := base) (e := T) (size := 2) w #[] 0 h (by unfold maxLen; omega) rfl

set_option maxRecDepth 100000 in
set_option maxHeartbeats 4000000 in
/-- **spec.PilesAdd** answers as addL does. -/
theorem specAdd_as (b off len cap : Nat) (ps : List Pl) (t : ByteArray) (m : Int) (r : List Pl) (ok : Bool) (w : World) (h : IsPiles w (some ⟨b, off, none⟩) len cap ps) (hbl : b < w.heap.size) (hs : Small ps) (ht : t.size ≤ 1048600) (hr : addL ps t m = r) (hok : addB ps t m = ok) :
    Calls Try.prog 71 #[.slice (some ⟨b, off, none⟩) len cap, .string t, .int .i64 m] w (GaveP w r ok) := by
  have HI := Lib.hid h
  have HS := Lib.hid hs
  have HR := Lib.hid hr
  have HOK := Lib.hid hok
  have H1 := Lib.hid h.1
  clear h hs hr hok
  go_enter Try.func71, Try.ntmps71
  cases hv : pilesB ps
  · have e : Hid (ok = false) := by rw [Hid, ← HOK.out, addB, hv]; rfl
    have e2 : Hid (r = []) := by rw [Hid, ← HR.out, addL, HOK.out, e.out]; rfl
    have HV := Lib.hid hv; clear hv
    go_wp2_with fail
    refine (specPiles_as _ len cap ps false _ HI.out HS.out HV.out).mono ?_
    rintro e1 w1 ⟨rfl, hb1⟩
    have hsz := hb1.size
    go_wp2
    go_ret2
    refine ⟨some ⟨w1.heap.size, 0, none⟩, 0, ?_, ?_, hb1.alloc hsz _, fun _ => ⟨_, rfl⟩⟩
    · rw [e.out, e2.out]; rfl
    · rw [e2.out]; exact empty_lit w1 _ _ hsz
  · have HV := Lib.hid hv
    cases hp : pileB t m
    · have e : Hid (ok = false) := by rw [Hid, ← HOK.out, addB, hv, hp]; rfl
      have e2 : Hid (r = []) := by rw [Hid, ← HR.out, addL, HOK.out, e.out]; rfl
      have HPB := Lib.hid hp; clear hv hp
      go_wp2_with fail
      refine (specPiles_as _ len cap ps true _ HI.out HS.out HV.out).mono ?_
      rintro e1 w1 ⟨rfl, hb1⟩
      go_wp2_with fail
      refine (l3Pile_as t m false _ ht HPB.out).mono ?_
      rintro e1 w2 ⟨rfl, hb2⟩
      have hB2 := hb1.trans (hb2.mono hb1.size)
      have hsz := hB2.size
      go_wp2
      go_ret2
      refine ⟨some ⟨w2.heap.size, 0, none⟩, 0, ?_, ?_, hB2.alloc hsz _, fun _ => ⟨_, rfl⟩⟩
      · rw [e.out, e2.out]; rfl
      · rw [e2.out]; exact empty_lit w2 _ _ hsz
    · have HPB := Lib.hid hp
      have hm := (pileB_iff t m).1 hp
      have hps := mAt_wide (mAt_valid hv)
      have hlen : len ≤ 12 := by have := (pilesB_pos hv).2.2.2.2; rw [H1.out] at this; exact this
      have HPS := Lib.hid hps
      have hm1 : 0 ≤ m ∧ m ≤ 1000000 := by omega
      obtain ⟨r2, hr2⟩ : ∃ r2, putL ps t m = r2 := ⟨_, rfl⟩
      obtain ⟨v2, hv2⟩ : ∃ v2, pilesB r2 = v2 := ⟨_, rfl⟩
      have HR2 := Lib.hid hr2
      have HV2 := Lib.hid hv2
      have e : Hid (ok = v2) := by rw [Hid, ← HOK.out, addB, hv, hp, hr2, hv2]; rfl
      have hl2 : r2.length ≤ 13 := by have := (put_longer ps t m).2; rw [hr2, H1.out] at this; omega
      have HS2 : Hid (Small r2) := by rw [← hr2]; exact HS.out.put ht
      clear hv hp hps hr2 hv2 hm
      go_wp2_with fail
      refine (specPiles_as _ len cap ps true _ HI.out HS.out HV.out).mono ?_
      rintro e1 w1 ⟨rfl, hb1⟩
      have I1 := Lib.hid (HI.out.below hb1)
      have hbl1 : b < w1.heap.size := Nat.lt_of_lt_of_le hbl hb1.size
      have B1 := Lib.hid hb1; clear hb1
      go_wp2_with fail
      refine (l3Pile_as t m true _ ht HPB.out).mono ?_
      rintro e1 w2 ⟨rfl, hb2⟩
      have I2 := Lib.hid (I1.out.below hb2)
      have hbl2 : b < w2.heap.size := Nat.lt_of_lt_of_le hbl1 hb2.size
      have B2 := Lib.hid (B1.out.trans (hb2.mono B1.out.size)); clear hb2
      go_wp2_with fail
      refine (l3Put_any b off len cap ps t m _ I2.out hbl2 (by omega) HPS.out hm1).mono ?_
      rintro e1 w3 ⟨g, cap', he, ho, hb3⟩
      rw [HR2.out] at he ho
      subst he
      have B3 := Lib.hid (B2.out.trans (hb3.mono B2.out.size))
      have O3 := Lib.hid (ho.mono B2.out.size)
      clear hb3 ho
      go_wp2_with fail
      refine (specPiles_as _ _ _ r2 v2 _ (IsPiles.of_owned O3.out (by omega)) HS2.out HV2.out).mono ?_
      rintro e1 w4 ⟨rfl, hb4⟩
      have O4 := Lib.hid (owns_below O3.out hb4)
      have B4 := Lib.hid (B3.out.trans (hb4.mono B3.out.size)); clear hb4
      cases v2
      · have e2 : Hid (r = []) := by rw [Hid, ← HR.out, addL, HOK.out, e.out]; rfl
        have hsz := B4.out.size
        go_wp2
        go_ret2
        refine ⟨some ⟨w4.heap.size, 0, none⟩, 0, ?_, ?_, B4.out.alloc hsz _, fun _ => ⟨_, rfl⟩⟩
        · rw [e.out, e2.out]; rfl
        · rw [e2.out]; exact empty_lit w4 _ _ hsz
      · have e2 : Hid (r = r2) := by rw [Hid, ← HR.out, addL, HOK.out, e.out, HR2.out]; rfl
        go_wp2
        go_ret2
        refine ⟨some ⟨g, 0, none⟩, cap', ?_, ?_, B4.out, fun _ => ⟨_, rfl⟩⟩
        · rw [e.out, e2.out]; rfl
        · rw [e2.out]; exact O4.out

end Go.Proofs.Ytafnmongglhlaaa

namespace Go.Proofs.Ytafnmongglhlaaa
open Go.RowKit

/-- One of three. -/
def p3 (x : Int) (d : Nat) : Int := if d = 0 then x else if d = 1 then -1 else 5
theorem p3_at (x : Int) (d : Nat) (h : d < 3) : (#[Value.int .i64 x, .int .i64 (-1), .int .i64 5] : Array Value)[d]? = some (.int .i64 (p3 x d)) := by
  have e : d = 0 ∨ d = 1 ∨ d = 2 := by omega
  rcases e with rfl | rfl | rfl <;> simp [p3]
theorem p3_cell (w : World) (t : TypeId) (x : Int) (d : Nat) (h : d < 3) : (w.alloc (.cells #[.int .i64 x, .int .i64 (-1), .int .i64 5] t)).cell? ⟨w.heap.size, d, none⟩ = some (.int .i64 (p3 x d)) :=
  (World.cell?_alloc_mark w _ t (0, 0) d).trans (p3_at x d h)
theorem p3_one (w : World) (o : Obj) (v : Value) (t : TypeId) : ∀ j u, [v][j]? = some u → ((w.alloc o).alloc (.cells #[v] t)).cell? ((⟨w.heap.size + 1, 0, none⟩ : Addr).add j) = some u := by
  have := cell_one_new (w.alloc o) v t
  rwa [World.size_alloc] at this
/-- A ballot that was drawn: in memory of the call's own; the reader has gone on. -/
def Drawn (R p : Nat) (w : World) (e : Ending) (w' : World) : Prop := ∃ (zs : List Int) (a : Option Addr) (cap p' : Nat), e = .returned (.slice a zs.length cap) ∧ w'.ownsRow w.heap.size 3 1 (.slice a zs.length cap) zs.length (zs.map (Value.int .i64)) ∧ zs.length ≤ 10 ∧ Rd w' R p' ∧ p' ≤ p + 20 ∧ Step R w w'

set_option maxRecDepth 100000 in
set_option maxHeartbeats 2000000 in
/-- **l91Ballot**. -/
theorem l91Ballot_any (R p : Nat) (n : Int) (w : World) (h : Rd w R p) (hp : p + 30 ≤ 1000000) (hn : 0 ≤ n) (hn5 : n ≤ 7) :
    Calls Try.prog 73 #[.pointer (some ⟨R, 0, none⟩), .int .i64 n] w (Drawn R p w) := by
  obtain ⟨i0, hi, hz0, hz1, hz2⟩ := info_parts int_info
  have hRw := h.1
  have HO0 := Lib.hid (World.ownsRow_lit (base := w.heap.size) (e := 3) (size := 1) w #[] 0 (Nat.le_refl _) (by unfold maxLen; omega) rfl)
  have H0 : Hid (Rd (w.alloc (.cells #[] 3)) R p) := h.below ((Below.refl _ w).alloc (Nat.le_refl _) _)
  have S0 : Hid (Step R w (w.alloc (.cells #[] 3))) := (Step.refl R w).alloc _
  clear h
  go_enter Try.func73, Try.ntmps73
  go_wp2_with fail
  refine (pick_any R p (n + 1) _ H0.out (by omega) (by omega) (by omega)).mono ?_
  rintro e w1 ⟨many, rfl, hmany, hr1, hs1⟩
  have R1 := Lib.hid hr1
  have O1 := Lib.hid (owns_step HO0.out hs1 hRw)
  have S1 := Lib.hid (S0.out.trans hs1)
  clear HO0 H0 S0 hr1 hs1
  go_wp2
  go_loopw [5, 7] (fun o i wr => ∃ (k : Nat) (zs : List Int) (a : Option Addr) (cap p' : Nat), k ≤ 9 ∧ i = .int .i64 k ∧ o = .slice a zs.length cap ∧ Hid (wr.ownsRow w.heap.size 3 1 (.slice a zs.length cap) zs.length (zs.map (Value.int .i64))) ∧ zs.length ≤ k ∧ Hid (Rd wr R p') ∧ p' ≤ p + 1 + k ∧ Hid (Step R w wr)) (fun _ i _ => 9 - (intOf i).toNat)
  case atStart => exact ⟨0, [], _, _, p + 1, by omega, rfl, rfl, O1, by simp, R1, by omega, S1⟩
  case round =>
    obtain ⟨k, zs, a, cap, p', hk9, rfl, rfl, ho, hzk, hr, hp', hs⟩ := hrel
    by_cases hgo : k < 9 ∧ zs.length < many
    · obtain ⟨hk, hm⟩ := hgo
      go_wp2_with fail
      refine (pick_any R p' n _ hr.out (by omega) (by omega) (by omega)).mono ?_
      rintro e w2 ⟨c, rfl, hc, hr2, hs2⟩
      have R2 := Lib.hid hr2
      have O2 := Lib.hid (owns_step ho.out hs2 hRw)
      have S2 := Lib.hid (hs.out.trans hs2)
      clear hr ho hs hr2 hs2
      go_wp2_with fail
      refine (l1Has_any a zs.length cap zs (c : Int) _ (IsInts.of_owned O2.out (by omega))).mono ?_
      rintro e w3 ⟨rfl, rfl⟩
      cases hh : hasB zs (c : Int)
      · have HH := Lib.hid hh
        go_wp2_with (at_builtin; refine wpList_append_own _ rfl _ _ 24 rfl w.heap.size 3 i0 (.int .i64 0) 1 8 Try.underlying24 hi hz0 hz1 hz2 rfl (by decide) _ _ _ rfl (O2.out.alloc _) ⟨w2.heap.size, 0, none⟩ 1 1 [.int .i64 (c : Int)] rfl rfl (cell_one_new _ _ _) (by simp [Value.oneCell']) (by unfold maxLen; omega) (by omega) (by have := S2.out.size; simp; omega) ?_; intro v' w4 hown' hgrow _; obtain ⟨a4, cap4, rfl⟩ := owns_slice hown')
        have hrow : ∀ j, (Value.slice a zs.length cap).ownBlock = some j → w.heap.size ≤ j := fun j ej => (O2.out.lt j ej).1
        have R4 : Hid (Rd w4 R (p' + 1)) := (R2.out.below ((Below.refl _ w2).alloc (Nat.le_refl _) _)).grown hgrow (fun j ej => by have := hrow j ej; omega)
        have S4 : Hid (Step R w w4) := (S2.out.alloc _).grown hgrow (fun j ej => .inl (hrow j ej))
        have hlen : (zs ++ [(c : Int)]).length = zs.length + 1 := by simp
        have O4 : Hid (w4.ownsRow w.heap.size 3 1 (.slice a4 (zs ++ [(c : Int)]).length cap4) (zs ++ [(c : Int)]).length ((zs ++ [(c : Int)]).map (Value.int .i64))) := by
          unfold Hid; rw [hlen, List.map_append]; exact hown'
        have HL := Lib.hid hlen
        clear hown' hgrow hrow hlen
        go_wp2
        go_roundw
        case rel => exact ⟨k + 1, zs ++ [(c : Int)], a4, cap4, p' + 1, by omega, by go_num, by rw [HL.out], O4, by rw [HL.out]; omega, R4, by omega, S4⟩
        case measure => simp [intOf]; omega
      · have HH := Lib.hid hh
        go_wp2
        go_roundw
        case rel => exact ⟨k + 1, zs, a, cap, p' + 1, by omega, by go_num, rfl, O2, by omega, R2, by omega, S2⟩
        case measure => simp [intOf]; omega
    · have hstop : 9 ≤ k ∨ many ≤ zs.length := by omega
      clear hgo
      rcases hstop with hk | hm
      case' inr => by_cases hk : k < 9
      all_goals
        rcases Nat.eq_zero_or_pos zs.length with hz | hz
        · have hz1 : (zs.length : Int) ≤ 0 := by omega
          clear hz
          go_wp2
          go_ret
          exact ⟨zs, a, cap, p', rfl, ho.out, by omega, hr.out, by omega, hs.out⟩
        · go_wp2_with fail
          refine (pick_any R p' 20 _ hr.out (by omega) (by omega) (by omega)).mono ?_
          rintro e w5 ⟨d, rfl, hd, hr5, hs5⟩
          have R5 := Lib.hid hr5
          have O5 := Lib.hid (owns_step ho.out hs5 hRw)
          have S5 := Lib.hid (hs.out.trans hs5)
          clear hr5 hs5
          cases hd0 : ((d : Int) == 0)
          · go_wp2
            go_ret
            exact ⟨zs, a, cap, p' + 1, rfl, O5.out, by omega, R5.out, by omega, S5.out⟩
          · obtain ⟨g, rfl, hg⟩ : ∃ g, a = some ⟨g, 0, none⟩ ∧ w.heap.size ≤ g := by
              rcases O5.out.2 with ⟨_, e0⟩ | ⟨g, c, _, e, hb, _⟩
              · omega
              · injection e with e1 _ _; exact ⟨g, e1, hb⟩
            have hg5 : g < w5.heap.size := (O5.out.lt g rfl).2
            obtain ⟨x, hx0⟩ : ∃ x, w5.cell? ⟨g, 0, none⟩ = some (.int .i64 x) := ⟨zs[0]?.getD 0, by rw [O5.out.cellAt 0 (by omega)]; simp [hz]⟩
            have hzl : (0 : Int) < (zs.length : Int) := by omega
            have m63 : zs.length + 1 ≤ maxLen := by unfold maxLen; omega
            have mby : (zs.length + 1) * 8 ≤ 140737488355328 := by omega
            go_wp2_with fail
            go_region_law (first
              | (go_simp; go_at_call 58; refine (pick_any R (p' + 1) 3 _ ?_ (by omega) (by omega) (by omega)).mono ?_; (first | exact R5.out | exact R5.out.below ((Below.refl _ w5).alloc (Nat.le_refl _) _).drew); rintro e w6 ⟨d3, rfl, hd3, hr6, hs6⟩; have hC := p3_at x d3 (by omega); (first | (have R6 := Lib.hid hr6; have O6 := Lib.hid (owns_step (O5.out.alloc (.cells #[.int .i64 x, .int .i64 (-1), .int .i64 5] 3)).drew hs6 hRw); have S6 := Lib.hid ((S5.out.alloc (.cells #[.int .i64 x, .int .i64 (-1), .int .i64 5] 3)).trans (Step.of_drew hs6)); have hq : w6.cell? ⟨w5.heap.size, d3, none⟩ = some (.int .i64 (p3 x d3)) := (World.cell?_of_block (hs6.block w5.heap.size (by simp) (by simp; omega))).trans (p3_cell w5 _ x d3 (by omega)); clear hs6 hr6) | (have R6 := Lib.hid hr6; have O6 := Lib.hid (owns_step O5.out.drew hs6 hRw); have S6 := Lib.hid (S5.out.trans (Step.of_drew hs6)); have hx6 : w6.cell? ⟨g, 0, none⟩ = some (.int .i64 x) := (World.cell?_of_block (hs6.block g hg5 (by simp; omega))).trans hx0; clear hs6 hr6)))
              | (refine step_append_lies _ (by rfl) _ _ _ (by rfl) w.heap.size 3 i0 (.int .i64 0) 1 8 Try.underlying24 hi hz0 hz1 hz2 rfl Nat.one_pos (.slice (some ⟨g, 0, none⟩) zs.length cap) zs.length (zs.map (Value.int .i64)) (by rfl) (O6.out.alloc _) ⟨w6.heap.size, 0, none⟩ 1 1 [.int .i64 (p3 x d3)] (by rfl) (by rfl) (cell_one_new _ _ _) (one_int _) Nat.one_pos m63 mby (base_alloc S6.out.size _) (w6.heap.size + 1) (World.size_alloc _ _) ?_; intro g7 cap7 w7 hown7 hgrow7 _ _; have R7 : Hid (Rd w7 R (p' + 1 + 1)) := (R6.out.below ((Below.refl _ w6).alloc (Nat.le_refl _) _)).grown hgrow7 (fun j ej => own_at ej ▸ Nat.lt_of_lt_of_le hRw hg); have S7 : Hid (Step R w w7) := (S6.out.alloc _).grown hgrow7 (fun j ej => .inl (own_at ej ▸ hg)); clear hgrow7)
              | (refine step_append_lies _ (by rfl) _ _ _ (by rfl) w.heap.size 3 i0 (.int .i64 0) 1 8 Try.underlying24 hi hz0 hz1 hz2 rfl Nat.one_pos (.slice (some ⟨g, 0, none⟩) zs.length cap) zs.length (zs.map (Value.int .i64)) (by rfl) ((O6.out.alloc _).alloc _) ⟨w6.heap.size + 1, 0, none⟩ 1 1 [.int .i64 (p3 x d3)] (by rfl) (by rfl) (p3_one _ _ _ _) (one_int _) Nat.one_pos m63 mby (base_alloc (base_alloc S6.out.size _) _) (w6.heap.size + 1 + 1) (size_two _ _ _) ?_; intro g7 cap7 w7 hown7 hgrow7 _ _; have R7 : Hid (Rd w7 R (p' + 1 + 1)) := (R6.out.below (((Below.refl _ w6).alloc (Nat.le_refl _) _).alloc (by simp) _)).grown hgrow7 (fun j ej => own_at ej ▸ Nat.lt_of_lt_of_le hRw hg); have S7 : Hid (Step R w w7) := ((S6.out.alloc _).alloc _).grown hgrow7 (fun j ej => .inl (own_at ej ▸ hg)); clear hgrow7))
            all_goals
              go_wp2
              go_ret
              refine ⟨zs ++ [p3 x d3], some ⟨g7, 0, none⟩, cap7, p' + 1 + 1, ?_, ?_, by simp; omega, R7.out, by omega, S7.out⟩
              · rw [List.length_append]; rfl
              · rw [List.length_append, List.map_append]; exact hown7

end Go.Proofs.Ytafnmongglhlaaa

namespace Go.Proofs.Ytafnmongglhlaaa
open Go.RowKit Go.Maps Go.Sort

/-- A text as a key. -/
def kT (t : ByteArray) : Lit := .string t.data.toList
theorem kT_inj {a b : ByteArray} (h : kT a = kT b) : a = b := by
  unfold kT at h
  injection h with h
  exact ByteArray.ext (Array.ext' h)
theorem kT_key (t : ByteArray) : WideAt.IsKeyLit (kT t) := trivial

abbrev iL (m : Int) : DataW Unit := .lit (.int .i64 m)
/-- The map reads as the piles: each text has the number of all its ballots. -/
def MapIs (D : DataW Unit) (ps : List Pl) : Prop :=
  (∀ u, Maps.has D (kT u) = true ↔ ∃ p ∈ ps, p.1 = u) ∧ ∀ u, D.atKey (kT u) (iL 0) = iL (tot ps u)
theorem mapIs_start : MapIs (.map []) [] := ⟨fun u => by simp [Maps.has], fun u => rfl⟩
theorem tot_one (t : ByteArray) (m : Int) (u : ByteArray) : tot [(t, m)] u = if t = u then m else 0 := by simp [tot]
theorem mapIs_step {D : DataW Unit} {ps : List Pl} (h : MapIs D ps) (hD : IsMap D) (t : ByteArray) (m : Int) : MapIs (D.put (kT t) (iL (tot ps t + m))) (ps ++ [(t, m)]) := by
  refine ⟨fun u => ?_, fun u => ?_⟩
  · by_cases e : u = t
    · subst e
      rw [has_put_same hD (kT_key _)]
      simp
    · rw [has_put_other (fun h' => e (kT_inj h')), h.1 u]
      constructor
      · rintro ⟨p, hp, rfl⟩; exact ⟨p, by simp [hp], rfl⟩
      · rintro ⟨p, hp, rfl⟩
        rcases List.mem_append.1 hp with hp | hp
        · exact ⟨p, hp, rfl⟩
        · simp at hp; subst hp; exact absurd rfl e
  · rw [tot_app, tot_one]
    by_cases e : u = t
    · subst e
      rw [atKey_put_same hD (kT_key _)]
      simp
    · rw [atKey_put_other (fun h' => e (kT_inj h')), h.2 u, if_neg (fun h' => e h'.symm)]
      simp
theorem tot_absent {ps : List Pl} {u : ByteArray} (h : ¬ ∃ p ∈ ps, p.1 = u) : tot ps u = 0 := tot_none fun p hp e => h ⟨p, hp, e⟩
/-- A text that is new. -/
theorem mapIs_new {D : DataW Unit} {ps : List Pl} (h : MapIs D ps) (hD : IsMap D) {t : ByteArray} (ht : ¬ ∃ p ∈ ps, p.1 = t) (m : Int) : MapIs (D.put (kT t) (iL m)) (ps ++ [(t, m)]) := by
  have := mapIs_step h hD t m
  rwa [tot_absent ht, Int.zero_add] at this
theorem tot_bound {ps : List Pl} (h : ∀ p ∈ ps, 0 ≤ p.2 ∧ p.2 ≤ 99) (u : ByteArray) : 0 ≤ tot ps u ∧ tot ps u ≤ 99 * (ps.length : Int) := by
  induction ps with
  | nil => simp [tot]
  | cons p ps ih =>
    have i := ih (fun q hq => h q (by simp [hq]))
    have j := h p (by simp)
    have e : tot (p :: ps) u = tot [p] u + tot ps u := tot_app [p] ps u
    rw [e, tot_one, List.length_cons]
    split <;> omega
theorem tot_pos {ps : List Pl} (h : ∀ p ∈ ps, 1 ≤ p.2) {u : ByteArray} (hu : ∃ p ∈ ps, p.1 = u) : 1 ≤ tot ps u := by
  induction ps with
  | nil => obtain ⟨p, hp, _⟩ := hu; simp at hp
  | cons p ps ih =>
    have e : tot (p :: ps) u = tot [p] u + tot ps u := tot_app [p] ps u
    have j := h p (by simp)
    have hn : 0 ≤ tot ps u := by
      by_cases hh : ∃ p ∈ ps, p.1 = u
      · have := ih (fun q hq => h q (by simp [hq])) hh; omega
      · rw [tot_absent hh]; omega
    rw [e, tot_one]
    by_cases e2 : p.1 = u
    · rw [if_pos e2]; omega
    · rw [if_neg e2]
      have : ∃ q ∈ ps, q.1 = u := by
        obtain ⟨q, hq, rfl⟩ := hu
        rcases List.mem_cons.1 hq with rfl | hq
        · exact absurd rfl e2
        · exact ⟨q, hq, rfl⟩
      have := ih (fun q hq => h q (by simp [hq])) this
      omega

/-- What was collected of a map, when 'left' is still to come. -/
def Coll (D : DataW Unit) (left : Lit → Bool) (qs : List Pl) : Prop :=
  (qs.map (·.1)).Nodup ∧ (∀ u, (∃ q ∈ qs, q.1 = u) ↔ (Maps.has D (kT u) = true ∧ left (kT u) = false)) ∧ ∀ q ∈ qs, D.atKey (kT q.1) (iL 0) = iL q.2
theorem coll_start (D : DataW Unit) : Coll D (Maps.has D) [] := ⟨List.nodup_nil, fun u => by cases Maps.has D (kT u) <;> simp, fun q hq => by cases hq⟩
theorem coll_step {D : DataW Unit} {left : Lit → Bool} {qs : List Pl} (h : Coll D left qs) {x : ByteArray} {c : Int} (hl : left (kT x) = true) (hat : ∀ zd, D.atKey (kT x) zd = iL c) :
    Coll D (fun z => left z && !z.sameKey (kT x)) (qs ++ [(x, c)]) := by
  have hx : ¬ ∃ q ∈ qs, q.1 = x := fun hh => by have := ((h.2.1 x).1 hh).2; rw [hl] at this; cases this
  refine ⟨?_, fun u => ?_, fun q hq => ?_⟩
  · rw [List.map_append, List.nodup_append]
    refine ⟨h.1, by simp, fun a ha b hb e => ?_⟩
    obtain ⟨q, hq, rfl⟩ := List.mem_map.1 ha
    simp at hb
    exact hx ⟨q, hq, e.trans hb⟩
  · show (∃ q ∈ qs ++ [(x, c)], q.1 = u) ↔ (Maps.has D (kT u) = true ∧ (left (kT u) && !(kT u).sameKey (kT x)) = false)
    by_cases e : u = x
    · subst e
      rw [has_true_of_atKey hat, WideAt.sameKey_self (kT_key _)]
      simp
    · rw [sameKey_ne (fun h' => e (kT_inj h'))]
      simp only [Bool.not_false, Bool.and_true]
      rw [← h.2.1 u]
      constructor
      · rintro ⟨q, hq, rfl⟩
        rcases List.mem_append.1 hq with hq | hq
        · exact ⟨q, hq, rfl⟩
        · simp at hq; subst hq; exact absurd rfl e
      · rintro ⟨q, hq, rfl⟩; exact ⟨q, by simp [hq], rfl⟩
  · rcases List.mem_append.1 hq with hq | hq
    · exact h.2.2 q hq
    · simp at hq; subst hq; exact hat _

/-! ### The order of strings.Compare -/
theorem cmp_less : ∀ a b : List UInt8, (Lib.compareBytes a b < 0) ↔ Op.bytesLess a b = true
  | [], [] => by simp [Lib.compareBytes, Op.bytesLess]
  | [], b :: bs => by simp [Lib.compareBytes, Op.bytesLess]
  | a :: xs, [] => by simp [Lib.compareBytes, Op.bytesLess]
  | a :: xs, b :: ys => by
    have ih := cmp_less xs ys
    by_cases h : a < b
    · simp [Lib.compareBytes, Op.bytesLess, h]
    · by_cases h' : b < a
      · have : ¬ a = b := fun e => by subst e; exact h h'
        simp [Lib.compareBytes, Op.bytesLess, h, h', this]
      · have e : a = b := UInt8.le_antisymm (UInt8.not_lt.1 h') (UInt8.not_lt.1 h)
        subst e
        simp [Lib.compareBytes, Op.bytesLess, h, ih]
def cmpP (p q : Pl) : Int := Lib.compareBytes p.1.data.toList q.1.data.toList
def ltP (p q : Pl) : Bool := tl p.1 q.1
theorem lt_cmpP (p q : Pl) : decide (cmpP p q < 0) = ltP p q := by
  unfold cmpP ltP tl
  rw [ByteArray.toList_eq, ByteArray.toList_eq, Bool.eq_iff_iff]
  simp only [decide_eq_true_iff]
  exact cmp_less _ _
theorem cmp_neg (p q : Pl) : decide (0 ≤ cmpP p q) = !tl p.1 q.1 := by
  have e : tl p.1 q.1 = decide (cmpP p q < 0) := (lt_cmpP p q).symm
  rw [e]
  by_cases h : cmpP p q < 0
  · have h' : ¬ 0 ≤ cmpP p q := by omega
    simp [h, h']
  · have h' : 0 ≤ cmpP p q := by omega
    simp [h, h']
theorem swo_cmpP : SWO ltP where
  irrefl x := by exact tl_irrefl _
  trans x y z h1 h2 := tl_trans h1 h2
  ntrans x y z h1 h2 := by
    unfold ltP at *
    cases h : tl x.1 z.1 with
    | false => rfl
    | true =>
      rcases tl_tri x.1 y.1 with g | g | g
      · rw [g] at h1; cases h1
      · rw [g, h2] at h; cases h
      · rw [tl_trans g h] at h2; cases h2

/-- What was collected, sorted, ascends, and has the numbers of the piles. -/
theorem coll_sorted {D : DataW Unit} {left : Lit → Bool} {ps qs : List Pl} {d' : Array Pl} (hM : MapIs D ps) (hC : Coll D left qs) (hl : ∀ kl, left kl = false) (hp : d'.toList.Perm qs) (hs : SortedIn (ltP) 0 d'.size d') :
    Asc d'.toList ∧ (∀ u, tot d'.toList u = tot ps u) ∧ ∀ q ∈ d'.toList, ∃ p ∈ ps, p.1 = q.1 := by
  have hn : (d'.toList.map (·.1)).Nodup := (hp.map _).nodup_iff.2 hC.1
  have hA : Asc d'.toList := by
    unfold Asc
    rw [List.pairwise_iff_getElem]
    intro i j hi hj hij
    have h := hs i j (Nat.zero_le _) hij (by simpa using hj)
    unfold ltP at h
    rw [getElem!_pos d' i (by simpa using hi), getElem!_pos d' j (by simpa using hj)] at h
    simp only [Array.getElem_toList]
    rcases tl_tri d'[i].1 d'[j].1 with g | g | g
    · exact g
    · have := (List.pairwise_iff_getElem.1 hn) i j (by simpa using hi) (by simpa using hj) hij
      simp at this
      exact absurd g this
    · rw [g] at h; cases h
  have hk : ∀ q ∈ d'.toList, ∃ p ∈ ps, p.1 = q.1 := fun q hq => (hM.1 q.1).1 ((hC.2.1 q.1).1 ⟨q, hp.mem_iff.1 hq, rfl⟩).1
  refine ⟨hA, fun u => ?_, hk⟩
  by_cases hu : ∃ q ∈ d'.toList, q.1 = u
  · obtain ⟨q, hq, rfl⟩ := hu
    rw [tot_mem hA q hq]
    have h1 := hC.2.2 q (hp.mem_iff.1 hq)
    rw [hM.2 q.1] at h1
    injection h1 with h1
    injection h1 with _ h1
    exact h1.symm
  · rw [tot_absent hu, tot_absent]
    rintro hh
    have := (hC.2.1 u).2 ⟨(hM.1 u).2 hh, hl _⟩
    obtain ⟨q, hq, e⟩ := this
    exact hu ⟨q, hp.mem_iff.2 hq, e⟩
theorem tot_zero : ∀ u, tot [] u = 0 := fun _ => rfl
/-- .. so they are the piles, merged. -/
theorem coll_merge {D : DataW Unit} {left : Lit → Bool} {ps qs : List Pl} {d' : Array Pl} (hM : MapIs D ps) (hC : Coll D left qs) (hl : ∀ kl, left kl = false) (hp : d'.toList.Perm qs) (hs : SortedIn (ltP) 0 d'.size d')
    (h1 : ∀ p ∈ ps, 1 ≤ p.2) : d'.toList = mergeL [] ps := by
  obtain ⟨hA, hT, hK⟩ := coll_sorted hM hC hl hp hs
  refine piles_ext hA (asc_merge asc_nil _) (fun q hq => ?_) (pos_merge (fun p hp => by cases hp) h1) (fun u => ?_)
  · rw [← tot_mem hA q hq, hT]; exact tot_pos h1 (hK q hq)
  · rw [hT, tot_merge, tot_zero, Int.zero_add]
theorem merge_both {a b : List Pl} (ha : pilesB a = true) : mergeL [] (a ++ b) = mergeL a b := by
  have hp := pilesB_pos ha
  rw [mergeL_app]
  have e : mergeL [] a = a := piles_ext (asc_merge asc_nil _) hp.1 (pos_merge (fun p hp => by cases hp) hp.2.1) hp.2.1 (fun u => by rw [tot_merge, tot_zero, Int.zero_add])
  rw [e]

end Go.Proofs.Ytafnmongglhlaaa

namespace Go.Proofs.Ytafnmongglhlaaa
open Go.RowKit

theorem mAt_merge {xs ys : List Pl} (ha : pilesB xs = true) (hb : ∀ p ∈ ys, 1 ≤ p.2 ∧ p.2 ≤ 99) (hl : ys.length ≤ 100) (i : Nat) : 0 ≤ mAt (mergeL xs ys) i ∧ mAt (mergeL xs ys) i ≤ 1000000 := by
  have hp := pilesB_pos ha
  unfold mAt
  cases e : (mergeL xs ys)[i]? with
  | none => simp
  | some q =>
    have hq := List.mem_of_getElem? e
    have h1 := tot_mem (asc_merge hp.1 ys) q hq
    have h2 := tot_merge xs ys q.1
    have h3 := tot_bound (ps := xs) (fun p hm => ⟨by have := hp.2.1 p hm; omega, hp.2.2.1 p hm⟩) q.1
    have h4 := tot_bound (ps := ys) (fun p hm => ⟨by have := hb p hm; omega, (hb p hm).2⟩) q.1
    have h5 := hp.2.2.2.2
    simp only [Option.getD_some]
    omega
theorem Small.merge {xs ys : List Pl} (ha : Small xs) (hb : Small ys) : Small (mergeL xs ys) := Small.of fun q hq => by
  have mem : ∀ {ps : List Pl}, Small ps → ∀ p ∈ ps, p.1.size ≤ 1048600 := fun {ps} h p hp => by
    obtain ⟨i, hi, rfl⟩ := List.mem_iff_getElem.1 hp
    have := h i
    unfold tAt at this
    simpa [hi] using this
  rcases merge_texts q hq with ⟨p, hp, e⟩ | ⟨p, hp, e⟩
  · rw [← e]; exact mem ha p hp
  · rw [← e]; exact mem hb p hp
theorem Small.take {ps : List Pl} (h : Small ps) (k : Nat) : Small (ps.take k) := Small.of fun q hq => by
  obtain ⟨i, hi, e⟩ := List.mem_iff_getElem.1 (List.mem_of_mem_take hq)
  have := h i
  unfold tAt at this
  rw [← e]
  simpa [hi] using this
theorem take_one {ps : List Pl} {k : Nat} (h : k < ps.length) : ps.take (k + 1) = ps.take k ++ [(tAt ps k, mAt ps k)] := by
  have e : (tAt ps k, mAt ps k) = ps[k] := by simp [tAt, mAt, h]
  rw [e, List.take_succ_eq_append_getElem h]
theorem merge_step {xs ps : List Pl} {k : Nat} (h : k < ps.length) : putL (mergeL xs (ps.take k)) (tAt ps k) (mAt ps k) = mergeL xs (ps.take (k + 1)) := by rw [take_one h, mergeL_snoc]
theorem mem_valid {ps : List Pl} (h : pilesB ps = true) : ∀ p ∈ ps, 1 ≤ p.2 ∧ p.2 ≤ 99 := fun p hp => ⟨(pilesB_pos h).2.1 p hp, (pilesB_pos h).2.2.1 p hp⟩
theorem IsPiles.piles {w : World} {a : Option Addr} {len cap : Nat} {ps : List Pl} (h : IsPiles w a len cap ps) {k : Nat} (hk : k < len) : ∃ b off, a = some ⟨b, off, none⟩ ∧ b < w.heap.size ∧ w.cell? ⟨b, off + k * 2, none⟩ = some (.string (tAt ps k)) ∧ w.cell? ⟨b, off + k * 2 + 1, none⟩ = some (.int .i64 (mAt ps k)) := by
  obtain ⟨b, off, e, hb, hc⟩ := h.2.2.2 (by omega)
  exact ⟨b, off, e, hb, hc k hk⟩

theorem not_nil {w : World} {base n size : Nat} {e : TypeId} {v : Value} {xs : List Value} (h : w.ownsRow base e size v n xs) (hn : v ≠ .slice none 0 0) : ∃ g c, v = .slice (some ⟨g, 0, none⟩) n c := by
  rcases h.2 with ⟨e0, _⟩ | ⟨g, c, _, e, _⟩
  · exact absurd e0 hn
  · exact ⟨g, c, e⟩

end Go.Proofs.Ytafnmongglhlaaa

namespace Go.Proofs.Ytafnmongglhlaaa
open Go.RowKit

theorem Step.behind {R : Nat} {w w' w2 : World} (h : Step R w w') (hb : Below w'.heap.size w' w2) : Step R w w2 :=
  h.grown (row := none) ⟨hb.os, hb.tape, hb.output, hb.size, fun k hk _ => hb.block k hk⟩ (fun k e => by cases e)
theorem small_valid {ps : List Pl} (h : pilesB ps = true) : Small ps := Small.of fun p hp => by
  have hv := (pilesB_pos h).2.2.2.1 p hp
  have := vB_short hv
  rw [nums_length] at this
  omega
theorem cellsP_setT : ∀ (ps : List Pl) (k : Nat) (s : ByteArray), k < ps.length → (cellsP ps).set (k * 2) (.string s) = cellsP (ps.set k (s, mAt ps k))
  | [], k, s, h => by simp at h
  | p :: ps, 0, s, _ => rfl
  | p :: ps, k + 1, s, h => by
    rw [mAt_cons, cellsP, show (k + 1) * 2 = k * 2 + 1 + 1 by omega, List.set_cons_succ, List.set_cons_succ, cellsP_setT ps k s (by simpa using h), List.set_cons_succ, cellsP]
/-- The numbers are from 0 to 100. -/
def Few (ps : List Pl) : Prop := ∀ i, 0 ≤ mAt ps i ∧ mAt ps i ≤ 100
theorem Few.of {ps : List Pl} (h : ∀ p ∈ ps, 0 ≤ p.2 ∧ p.2 ≤ 100) : Few ps := fun i => by
  unfold mAt
  cases e : ps[i]? with
  | none => simp
  | some p => exact h p (List.mem_of_getElem? e)
theorem Few.mem {ps : List Pl} (h : Few ps) : ∀ p ∈ ps, 0 ≤ p.2 ∧ p.2 ≤ 100 := fun p hp => by
  obtain ⟨i, hi, rfl⟩ := List.mem_iff_getElem.1 hp
  have := h i
  unfold mAt at this
  simpa [hi] using this
theorem Small.mem {ps : List Pl} (h : Small ps) : ∀ p ∈ ps, p.1.size ≤ 1048600 := fun p hp => by
  obtain ⟨i, hi, rfl⟩ := List.mem_iff_getElem.1 hp
  have := h i
  unfold tAt at this
  simpa [hi] using this
theorem few_valid {ps : List Pl} (h : pilesB ps = true) : Few ps := fun i => by have := mAt_valid h i; omega
theorem Few.set {ps : List Pl} (h : Few ps) (k : Nat) {t : ByteArray} {m : Int} (hm : 0 ≤ m ∧ m ≤ 100) : Few (ps.set k (t, m)) := Few.of fun p hp => by
  rcases List.mem_or_eq_of_mem_set hp with hp | rfl
  · exact h.mem p hp
  · exact hm
theorem Small.set {ps : List Pl} (h : Small ps) (k : Nat) {t : ByteArray} {m : Int} (ht : t.size ≤ 1048600) : Small (ps.set k (t, m)) := Small.of fun p hp => by
  rcases List.mem_or_eq_of_mem_set hp with hp | rfl
  · exact h.mem p hp
  · exact ht
theorem Few.snoc {ps : List Pl} (h : Few ps) {t : ByteArray} {m : Int} (hm : 0 ≤ m ∧ m ≤ 100) : Few (ps ++ [(t, m)]) := Few.of fun p hp => by
  rcases List.mem_append.1 hp with hp | hp
  · exact h.mem p hp
  · simp at hp; subst hp; exact hm
theorem Small.snoc {ps : List Pl} (h : Small ps) {t : ByteArray} {m : Int} (ht : t.size ≤ 1048600) : Small (ps ++ [(t, m)]) := Small.of fun p hp => by
  rcases List.mem_append.1 hp with hp | hp
  · exact h.mem p hp
  · simp at hp; subst hp; exact ht

theorem specText_as' (a : Option Addr) (len cap : Nat) (zs : List Int) (t : ByteArray) (w : World) (h : IsInts w a len cap zs) (ht : txtB zs = t) :
    Calls Try.prog 72 #[.slice a len cap] w fun e w' => e = .returned (.string t) ∧ Dr w w' := by subst ht; exact specText_any a len cap zs w h
theorem txtB_short' (zs : List Int) : (txtB zs).size ≤ zs.length := by
  unfold txtB
  split
  · rw [txtOf_size]; exact Nat.le_refl _
  · exact Nat.zero_le _
/-- Piles of the reader's. -/
def DrawnP (R p : Nat) (w : World) (e : Ending) (w' : World) : Prop := ∃ (ps : List Pl) (g cap p' : Nat), e = .returned (.slice (some ⟨g, 0, none⟩) ps.length cap) ∧
  w'.ownsRow w.heap.size 49 2 (.slice (some ⟨g, 0, none⟩) ps.length cap) ps.length (cellsP ps) ∧ Small ps ∧ Few ps ∧ ps.length ≤ 13 ∧ Rd w' R p' ∧ p' ≤ p + 3000 ∧ Step R w w'
theorem addL_valid {ps : List Pl} {t : ByteArray} {m : Int} (h : addB ps t m = true) : pilesB (addL ps t m) = true := by rw [addL, h]; exact ((addB_iff ps t m).1 h).2.2

end Go.Proofs.Ytafnmongglhlaaa

namespace Go.Proofs.Ytafnmongglhlaaa
open Go.RowKit

/-- A list of piles of the call's own. -/
def HasP (w0 w : World) (ps : List Pl) (g cap : Nat) : Prop := w.ownsRow w0.heap.size 49 2 (.slice (some ⟨g, 0, none⟩) ps.length cap) ps.length (cellsP ps) ∧ Small ps ∧ Few ps ∧ ps.length ≤ 13
theorem HasP.below {w0 w w' : World} {ps : List Pl} {g cap : Nat} (h : HasP w0 w ps g cap) (hb : Below w.heap.size w w') : HasP w0 w' ps g cap := ⟨owns_below h.1 hb, h.2⟩
theorem HasP.piles {w0 w : World} {ps : List Pl} {g cap : Nat} (h : HasP w0 w ps g cap) : IsPiles w (some ⟨g, 0, none⟩) ps.length cap ps := IsPiles.of_owned h.1 (by have := h.2.2.2; omega)
theorem HasP.lt {w0 w : World} {ps : List Pl} {g cap : Nat} (h : HasP w0 w ps g cap) : g < w.heap.size := (h.1.lt g rfl).2

end Go.Proofs.Ytafnmongglhlaaa

namespace Go.Proofs
open Go.Shelf
def Try.cmpStr_ren : Go.Shelf.Ren := ⟨fun | 106 => 121 | 213 => 132 | 265 => 134 | n => n, fun | 9 => 9 | 3 => 3 | n => n, fun | n => n⟩
theorem Try.cmpStr : Go.Proofs.Lays.n106 Try.prog Try.cmpStr_ren := {
  mixed := by kernel_rfl
  f106 := Try.func121.trans (congrArg some (by kernel_rfl))
  f213 := Try.func132.trans (congrArg some (by kernel_rfl))
  f265 := Try.func134.trans (congrArg some (by kernel_rfl))
  t3 := Try.underlying3
  a3 := Try.isAgg3
  z3 := Try.sizeOf3
  v3 := Try.zeroValue3
  t9 := Try.underlying9
  a9 := Try.isAgg9
  z9 := Try.sizeOf9
  v9 := Try.zeroValue9 }
end Go.Proofs

namespace Go.Proofs.Ytafnmongglhlaaa
open Go.RowKit Go.Shelf Go.Sort

theorem below_grow {B : Nat} {w w' : World} (h : Below B w w') (hB : B ≤ w.heap.size) (os : Array Obj) : Below B w (grow w' os) := ⟨h.os, h.tape, h.output, by have := h.size; simp; omega, fun k hk => (heap_grow_old _ _ (Nat.lt_of_lt_of_le hk (Nat.le_trans hB h.size))).trans (h.block k hk)⟩

set_option maxHeartbeats 1000000 in
/-- **impl's Pile.compare**. -/
theorem compare_any (p q : Pl) (w : World) :
    Calls Try.prog 88 #[.agg #[.string p.1, .int .i64 p.2], .agg #[.string q.1, .int .i64 q.2]] w fun e w' => e = .returned (.int .i64 (cmpP p q)) ∧ ∃ n os, w' = grow (w.drewN n) os := by
  obtain ⟨r, hr⟩ : ∃ r, Lib.compareBytes p.1.data.toList q.1.data.toList = r := ⟨_, rfl⟩
  have hcon := fun W => Any.strings_Compare Try.cmpStr p.1 q.1 W
  change ∀ W, Calls Try.prog 121 _ _ _ at hcon
  rw [hr] at hcon
  have HR : Hid (cmpP p q = r) := hr
  clear hr
  go_enter Try.func88, Try.ntmps88
  go_wp2_with (go_at_call 121; refine (hcon _).mono ?_; rintro e w' ⟨rfl, rfl⟩)
  go_ret
  exact ⟨ret_int HR.out.symm, 0, _, by rw [alloc_eq_grow, alloc_eq_grow, grow_grow]; rfl⟩
theorem compare_below (p q : Pl) (w : World) :
    Calls Try.prog 88 #[.agg #[.string p.1, .int .i64 p.2], .agg #[.string q.1, .int .i64 q.2]] w fun e w' => e = .returned (.int .i64 (cmpP p q)) ∧ Below w.heap.size w w' :=
  (compare_any p q w).mono fun _ _ ⟨he, n, os, hw⟩ => ⟨he, by subst hw; exact below_grow (below_drewN _ _ _) (Nat.le_refl _) _⟩
theorem compare_as (t : ByteArray) (m : Int) (t' : ByteArray) (m' : Int) (r : Int) (w : World) (h : cmpP (t, m) (t', m') = r) :
    Calls Try.prog 88 #[.agg #[.string t, .int .i64 m], .agg #[.string t', .int .i64 m']] w fun e w' => e = .returned (.int .i64 r) ∧ Below w.heap.size w w' := by
  subst h; exact compare_below (t, m) (t', m') w
theorem enters_compare : ∀ args w, (callFunc 88 args).run Try.prog w = .ok (.enter 88 args) w := enters_of Try.func88 (by kernel_rfl) rfl

end Go.Proofs.Ytafnmongglhlaaa
