/-
  spec.l3Put: ballots go to their pile, or into a new one; what it returns is memory of its own. For lists of piles with an address; numbers from 0 to 1000000.
-/
import Derived.Test.YtaaamidkfhabnabGrp3
import Derived.Test.YtaaamidkfhabnabGrp4
import Derived.Maps.AppendAt
namespace Go.Proofs.Ytaaamidkfhabnab
open Go.RowKit

theorem pile_info : (Try.prog.info? 45).map (fun i => (i.zero, i.size, i.bytes)) = some (some (.agg #[.string ⟨#[]⟩, .int .i64 0]), 2, 24) := by kernel_rfl
theorem cellsP_one' (ps : List Pl) : ∀ u ∈ cellsP ps, u.oneCell' = true := by
  induction ps with
  | nil => intro u hu; cases hu
  | cons p ps ih =>
    intro u hu
    rw [cellsP] at hu
    rcases List.mem_cons.1 hu with rfl | hu
    · rfl
    · rcases List.mem_cons.1 hu with rfl | hu
      · rfl
      · exact ih u hu
/-- The cells of a part of a slice of piles. -/
theorem part_cells {w : World} {b off len cap : Nat} {ps : List Pl} (h : IsPiles w (some ⟨b, off, none⟩) len cap ps) {w' : World} (hb : ∀ j, j < len * 2 → w'.cell? ⟨b, off + j, none⟩ = w.cell? ⟨b, off + j, none⟩) :
    ∀ j u, (cellsP ps)[j]? = some u → w'.cell? ((⟨b, off, none⟩ : Addr).add j) = some u := by
  intro j u hu
  have hj : j < len * 2 := by
    have := (List.getElem?_eq_some_iff.1 hu).1
    rw [cellsP_length, h.1] at this
    exact this
  rw [add_spot, hb j hj, h.cells j hj, hu]

theorem drew_size (w : World) : w.drew.heap.size = w.heap.size := rfl
/-- The cells of the first k piles, and of the others, in a world in which nothing that was there has turned. -/
theorem take_cells {w w' : World} {b off len cap k : Nat} {ps : List Pl} (h : IsPiles w (some ⟨b, off, none⟩) len cap ps) (hb : b < w.heap.size) (hk : k ≤ len) (hB : Below w.heap.size w w') :
    ∀ j u, (cellsP (ps.take k))[j]? = some u → w'.cell? ((⟨b, off, none⟩ : Addr).add j) = some u :=
  part_cells (h.take hk) fun j _ => hB.cell (p := ⟨b, off + j, none⟩) hb
theorem drop_cells {w w' : World} {b off len cap k : Nat} {ps : List Pl} (h : IsPiles w (some ⟨b, off, none⟩) len cap ps) (hb : b < w.heap.size) (hk : k ≤ len) (hB : Below w.heap.size w w') :
    ∀ j u, (cellsP (ps.drop k))[j]? = some u → w'.cell? ((⟨b, off + k * 2, none⟩ : Addr).add j) = some u :=
  part_cells (h.drop hk (Nat.le_refl _)) fun j _ => hB.cell (p := ⟨b, off + k * 2 + j, none⟩) hb
theorem no_cells {w' : World} {ad : Addr} {ps : List Pl} {k : Nat} (h : ps.length ≤ k) : ∀ j u, (cellsP (ps.drop k))[j]? = some u → w'.cell? (ad.add j) = some u := fun j u hu => by
  rw [List.drop_of_length_le h] at hu
  simp [cellsP] at hu
theorem own_ge {g n c base j : Nat} (h : (Value.slice (some ⟨g, 0, none⟩) n c).ownBlock = some j) (hg : base ≤ g) : base ≤ j := by cases h; exact hg
theorem kept_two {W w5 : World} {row : Option Nat} {q : Nat} {c1 c2 : Value} (hg : W.grownBy w5 row) (hq : q < W.heap.size) (hne : some q ≠ row) (h0 : W.cell? ⟨q, 0, none⟩ = some c1) (h1 : W.cell? ⟨q, 1, none⟩ = some c2) :
    ∀ j u, [c1, c2][j]? = some u → w5.cell? ((⟨q, 0, none⟩ : Addr).add j) = some u := by
  intro j u hu
  match j, hu with
  | 0, hu => simp at hu; subst hu; rw [add_spot]; exact (World.cell?_of_block (a := ⟨q, 0, none⟩) (hg.block q hq hne)).trans h0
  | 1, hu => simp at hu; subst hu; rw [add_spot]; exact (World.cell?_of_block (a := ⟨q, 1, none⟩) (hg.block q hq hne)).trans h1
theorem two_new (w : World) (c1 c2 : Value) (T : TypeId) : ∀ j u, [c1, c2][j]? = some u → (w.alloc (.cells #[c1, c2] T)).cell? ((⟨w.heap.size, 0, none⟩ : Addr).add j) = some u := by
  intro j u hu
  match j, hu with
  | 0, hu => simp at hu; subst hu; rw [add_spot]; exact World.cell?_alloc_new w _ _ 0
  | 1, hu => simp at hu; subst hu; rw [add_spot]; exact World.cell?_alloc_new w _ _ 1
theorem put_cells {ps : List Pl} {k : Nat} {t : ByteArray} {m : Int} (h : putL ps t m = ps.take k ++ (t, m) :: ps.drop k) : cellsP (ps.take k) ++ [.string t, .int .i64 m] ++ cellsP (ps.drop k) = cellsP (putL ps t m) := by
  rw [h, cellsP_app, cellsP]; simp
theorem put_length {ps : List Pl} {k : Nat} {t : ByteArray} {m : Int} (h : putL ps t m = ps.take k ++ (t, m) :: ps.drop k) (hk : k ≤ ps.length) : (putL ps t m).length = k + 1 + (ps.length - k) := by
  rw [h]; simp; omega
theorem some_of_owns {w : World} {base n size : Nat} {e : TypeId} {v : Value} {xs : List Value} (h : w.ownsRow base e size v n xs) (hn : 0 < n) : ∃ g c, v = .slice (some ⟨g, 0, none⟩) n c := by
  rcases h.2 with ⟨_, e0⟩ | ⟨g, c, _, e, _⟩
  · omega
  · exact ⟨g, c, e⟩

end Go.Proofs.Ytaaamidkfhabnab
