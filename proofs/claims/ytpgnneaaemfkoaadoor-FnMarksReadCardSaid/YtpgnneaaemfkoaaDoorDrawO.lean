/-
  The reader of drawn inputs: what is kept while it goes on (Step), and l6Open: a new reader. No condition but what each theorem says.
-/
import Derived.Test.YtpgnneaaemfkoaaDoorDraw
import Derived.Deep.RegionLaw
import Derived.Deep.AppendLies
import Derived.Deep.RegionWith
import Derived.Laws.IdiomStrings
namespace Go.Proofs.YtpgnneaaemfkoaaDoor
open Go.RowKit

theorem one_int (q : Int) : ∀ u ∈ [Value.int .i64 q], u.oneCell' = true := by simp [Value.oneCell']
theorem base_alloc {b : Nat} {w : World} (h : b ≤ w.heap.size) (o : Obj) : b ≤ (w.alloc o).heap.size := by simp; omega
theorem size_two (w : World) (o o' : Obj) : ((w.alloc o).alloc o').heap.size = w.heap.size + 1 + 1 := by simp
theorem own_at {g j len cap : Nat} (e : (Value.slice (some ⟨g, 0, none⟩) len cap).ownBlock = some j) : g = j := by cases e; rfl
theorem Step.of_drew {R : Nat} {w w' : World} (h : Step R w.drew w') : Step R w w' := ⟨h.os, h.tape, h.output, h.size, h.block⟩

theorem Step.refl (R : Nat) (w : World) : Step R w w := ⟨rfl, rfl, rfl, Nat.le_refl _, fun _ _ _ => rfl⟩
theorem Step.alloc {R : Nat} {w w' : World} (h : Step R w w') (o : Obj) : Step R w (w'.alloc o) :=
  ⟨h.os, h.tape, h.output, by have := h.size; simp; omega, fun k hk hr => (Below.heap_alloc _ _ _ (Nat.lt_of_lt_of_le hk h.size)).trans (h.block k hk hr)⟩
theorem Step.grown {R : Nat} {w w' w2 : World} {row : Option Nat} (h : Step R w w') (g : w'.grownBy w2 row) (hr : ∀ k, row = some k → w.heap.size ≤ k ∨ k = R) : Step R w w2 :=
  ⟨g.os.trans h.os, g.tape.trans h.tape, g.output.trans h.output, Nat.le_trans h.size g.size, fun k hk hne => (g.block k (Nat.lt_of_lt_of_le hk h.size) (fun e => by
    rcases hr k e.symm with h1 | h1
    · omega
    · exact hne (by rw [h1]))).trans (h.block k hk hne)⟩
theorem Step.trans {R : Nat} {a b c : World} (h : Step R a b) (g : Step R b c) : Step R a c := h.grown g (fun k e => by cases e; exact .inr rfl)
theorem owns_step {w w' : World} {R base n size : Nat} {e : TypeId} {v : Value} {xs : List Value} (h : w.ownsRow base e size v n xs) (hs : Step R w w') (hR : R < base) : w'.ownsRow base e size v n xs := by
  refine h.kept hs ?_
  cases hb : v.ownBlock with
  | none => exact .inl rfl
  | some k => have := (h.lt k hb).1; right; intro e2; cases e2; omega
theorem Rd.grown {w w' : World} {R p : Nat} {row : Option Nat} (h : Rd w R p) (g : w.grownBy w' row) (hr : ∀ k, row = some k → R < k) : Rd w' R p :=
  have hb : Below (R + 1) w w' := ⟨g.os, g.tape, g.output, g.size, fun k hk => g.block k (by have := h.1; omega) (fun e => by have := hr k e.symm; omega)⟩
  by
    obtain ⟨h1, h2, h3, h4, a, len, cap, bs, h5, h6, h7, h8, h9⟩ := h
    refine ⟨Nat.lt_of_lt_of_le h1 g.size, h2, (hb.cell (p := ⟨R, 1, none⟩) (by simp)).trans h3, (hb.frozen (p := ⟨R, 1, none⟩) (by simp)).trans h4, a, len, cap, bs, (hb.cell (p := ⟨R, 0, none⟩) (by simp)).trans h5, h6, h7, h8, fun hl => ?_⟩
    obtain ⟨b, off, e, hbR, hc⟩ := h9 hl
    exact ⟨b, off, e, hbR, fun j hj => (hb.cell (p := ⟨b, off + j, none⟩) (by simp; omega)).trans (hc j hj)⟩

set_option maxRecDepth 100000 in
set_option maxHeartbeats 1000000 in
/-- **l6Open**: a new reader. -/
theorem open_any (a : Option Addr) (len cap : Nat) (bs : List Int) (w : World) (h : IsBytes w a len bs) (hcap : len ≤ cap) (hl : len ≤ 1048600) :
    Calls Tryd.prog 28 #[.slice a len cap] w fun e w' => e = .returned (.pointer (some ⟨w.heap.size, 0, none⟩)) ∧ Rd w' w.heap.size 0 ∧ Below w.heap.size w w' := by
  by_cases hb : 2000 < len
  · obtain ⟨h1, h2, h4⟩ := h
    obtain ⟨b, off, rfl, hbw, hc⟩ := h4 (by omega)
    have HR : Hid (Rd (w.alloc (.cells #[.slice (some ⟨b, off, none⟩) 2000 cap, .int .i64 0] 55)) w.heap.size 0) := by
      have hB : Below w.heap.size w (w.alloc (.cells #[.slice (some ⟨b, off, none⟩) 2000 cap, .int .i64 0] 55)) := (Below.refl _ w).alloc (Nat.le_refl _) _
      refine ⟨by simp, by omega, (World.cell?_alloc_mark w _ _ (0, 0) 1).trans rfl, (World.frozen?_alloc_mark w _ _ 0 0 1).trans rfl, _, 2000, cap, bs.take 2000, (World.cell?_alloc_mark w _ _ (0, 0) 0).trans rfl, by omega, by simp; omega, fun z hz => h2 z (List.mem_of_mem_take hz), fun _ => ⟨b, off, rfl, hbw, fun j hj => ?_⟩⟩
      rw [List.getElem?_take_of_lt hj]
      exact (hB.cell (p := ⟨b, off + j, none⟩) hbw).trans (hc j (by omega))
    clear h2 h4 hc
    go_enter Tryd.func28, Tryd.ntmps28
    go_wp2
    go_ret
    exact ⟨rfl, HR.out, (Below.refl _ w).alloc (Nat.le_refl _) _⟩
  · obtain ⟨h1, h2, h4⟩ := h
    have HR : Hid (Rd (w.alloc (.cells #[.slice a len cap, .int .i64 0] 55)) w.heap.size 0) := by
      have hB : Below w.heap.size w (w.alloc (.cells #[.slice a len cap, .int .i64 0] 55)) := (Below.refl _ w).alloc (Nat.le_refl _) _
      refine ⟨by simp, by omega, (World.cell?_alloc_mark w _ _ (0, 0) 1).trans rfl, (World.frozen?_alloc_mark w _ _ 0 0 1).trans rfl, _, len, cap, bs, (World.cell?_alloc_mark w _ _ (0, 0) 0).trans rfl, by omega, h1, h2, fun hp => ?_⟩
      obtain ⟨b, off, e, hbw, hc⟩ := h4 hp
      exact ⟨b, off, e, hbw, fun j hj => (hB.cell (p := ⟨b, off + j, none⟩) hbw).trans (hc j hj)⟩
    clear h2 h4
    go_enter Tryd.func28, Tryd.ntmps28
    go_wp2
    go_ret
    exact ⟨rfl, HR.out, (Below.refl _ w).alloc (Nat.le_refl _) _⟩

end Go.Proofs.YtpgnneaaemfkoaaDoor
