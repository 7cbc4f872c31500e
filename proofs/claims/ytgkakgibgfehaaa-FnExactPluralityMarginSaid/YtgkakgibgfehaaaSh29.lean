/-
  COMPANY: the workers' beginnings ('Begin'), from partCounts's contract over the program with our own function, in the world of the copies.
  COMPANY: countsOfParts from its start to its return, beside goroutines that only leave.
  COMPANY: countsOfParts, beside goroutines that only leave: it comes back with a list of rows, each what partCounts makes of its part.
  D: THE LAW 'Jump' AT countsOfParts: the function of our own, alone, and the given one, beside goroutines that only leave, come back alike.
-/
import Derived.Test.YtgkakgibgfehaaaSh34
import Derived.Test.YtgkakgibgfehaaaSh33
import Derived.Test.YtgkakgibgfehaaaSh2
namespace Go.Proofs.Ytgkakgibgfehaaa.Ph
open Go.Conc Go.ConcN Go.RowKit Go.ConcR.Gen Go.ConcN.Gen Go.Proofs.Ytgkakgibgfehaaa.Sim Go.Proofs.Ytgkakgibgfehaaa.Md
theorem extract_some {c : Array Value} {a b k : Nat} {v : Value} (h : c[a + k]? = some v) (hb : a + k < b) : (c.extract a b)[k]? = some v := by
  have hlt := (Array.getElem?_eq_some_iff.1 h).1
  rw [Array.getElem?_extract, if_pos (by omega)]
  exact h
theorem cells_of {W : World} {b o : Nat} {v : Value} (h : W.cell? ⟨b, o, none⟩ = some v) : (cellsOf W b)[o]? = some v := by
  obtain ⟨C, e, fr, h1, -, h2⟩ := cell_some h
  unfold cellsOf
  rw [show W.heap[b]? = some (.cells C e fr) from h1]
  exact h2
section
variable {c : Array Value} {W w : World} {ad pb : Addr} {l ca m cb p : Nat} {ps : List Pl} {L : List Bool}
theorem lone_cell {i : Nat} {d : Array Value} {e : TypeId} {Ls : List Obj} (h : Ls[i]? = some (copyOf d e)) {o : Nat} {v : Value} (hv : d[o]? = some v) : (loneAt W Ls w).cell? ⟨W.heap.size + i, o, none⟩ = some v := by
  have h1 : (loneAt W Ls w).heap[W.heap.size + i]? = some (copyOf d e) := pushed_new W Ls h
  unfold World.cell?
  rw [h1]
  unfold copyOf
  simpa using hv
theorem copies_piles (S : Shape c W (some ad) l ca pb m cb) (hg : True) (hps : IsPiles W (some ad) l ca ps) (hp : p < numParts l) : IsPiles (loneAt W (copies W ad pb l m) w) (some ⟨W.heap.size + p, 0, none⟩) (lenPart l p) (lenPart l p) (chunkP ps l p) := by
  have hl : 0 < l := by unfold numParts at hp; omega
  have h4 : 4 * p < l := by unfold numParts at hp; omega
  have hA := (copy_part S hg hp).at_
  obtain ⟨k1, k2, k3, k4⟩ := hps
  obtain ⟨b, off, hb, hlt, hc⟩ := k4 hl
  cases hb
  refine ⟨?_, Nat.le_refl _, by unfold lenPart; omega, fun h0 => ⟨_, _, rfl, ?_, fun j hj => ?_⟩⟩
  · unfold chunkP lenPart
    rw [List.length_take, List.length_drop, k1]
    omega
  · have := (Array.getElem?_eq_some_iff.1 (show (loneAt W (copies W ⟨b, off, none⟩ pb l m) w).heap[W.heap.size + p]? = _ from pushed_new W _ hA)).1
    exact this
  · have hj4 : j < min 4 (l - 4 * p) := hj
    have hjl : 4 * p + j < l := by omega
    obtain ⟨c1, c2⟩ := hc (4 * p + j) hjl
    have e1 : tAt (chunkP ps l p) j = tAt ps (4 * p + j) := by unfold chunkP; rw [tAt_take hj4, tAt_drop]
    have e2 : mAt (chunkP ps l p) j = mAt ps (4 * p + j) := by unfold chunkP; rw [mAt_take hj4, mAt_drop]
    rw [e1, e2]
    refine ⟨lone_cell hA (extract_some ?_ (by show off + 8 * p + (0 + j * 2) < off + 8 * p + 2 * lenPart l p; omega)), lone_cell hA (extract_some ?_ (by show off + 8 * p + (0 + j * 2 + 1) < off + 8 * p + 2 * lenPart l p; omega))⟩
    · have := cells_of c1
      rwa [show off + (4 * p + j) * 2 = off + 8 * p + (0 + j * 2) by omega] at this
    · have := cells_of c2
      rwa [show off + (4 * p + j) * 2 + 1 = off + 8 * p + (0 + j * 2 + 1) by omega] at this
theorem copies_bools (S : Shape c W (some ad) l ca pb m cb) (hg : True) (hbs : IsBools W (some pb) m cb L) : IsBools (loneAt W (copies W ad pb l m) w) (some ⟨W.heap.size + numParts l, 0, none⟩) m cb L := by
  have hA := (copy_left (ad := ad) S hg).at_
  obtain ⟨k1, k2, k3, k4⟩ := hbs
  obtain ⟨b, off, hb, hlt, hc⟩ := k4 S.pos
  cases hb
  refine ⟨k1, k2, k3, fun h0 => ⟨_, _, rfl, ?_, fun j hj => ?_⟩⟩
  · exact (Array.getElem?_eq_some_iff.1 (show (loneAt W (copies W ad ⟨b, off, none⟩ l m) w).heap[W.heap.size + numParts l]? = _ from pushed_new W _ hA)).1
  · refine lone_cell hA (extract_some ?_ (by show off + (0 + j) < off + m; omega))
    have := cells_of (hc j hj)
    rwa [show off + j = off + (0 + j) by omega] at this
/-- Every worker's beginning. -/
theorem begin_ours {Wg C bl ba : Nat} {pp : Option Addr} (S : Shape c W (some ad) l ca pb m cb) (hg : True) (hg' : True) (hgW : tabs.globals.size ≤ W.heap.size) (hps : IsPiles W (some ad) l ca ps) (hsm : Small ps) (hbs : IsBools W (some pb) m cb L) :
    ∀ p, p < numParts l → ∀ (X : Kn) w, MF Wg C bl ba (numParts l) pp (partVal ad l) (.slice (some pb) m cb) (fun b => b = ad.block ∨ b = pb.block) W X.ice w →
      Begin (shift W ad pb l) fsL (fun p => RowQ 3 (rowOf L ps l p)) (fun p => RowPV 3 (rowOf L ps l p)) p X.on w (partVal ad l p) (.slice (some pb) m cb) := by
  have hm : L.length = m := hbs.1
  refine begin_all S hg hg' hgW (zs := rowOf L ps l) (fun p hp => ⟨by rw [rowOf_size, hm]; exact S.pos, fun x v hv => ?_⟩) fun p hp w t d => ?_
  · simp only [rowOf, List.getElem?_toArray, List.getElem?_map, Option.map_eq_some_iff] at hv
    obtain ⟨z, -, rfl⟩ := hv
    exact .int _ z
  · refine (partCounts_as _ _ _ _ _ _ _ _ (on (loneAt W (copies W ad pb l m) w) t d) (copies_piles (w := on w t d) S hg hps hp) (Small.chunk hsm l p) (copies_bools (w := on w t d) S hg' hbs)).mono ?_
    rintro e w1 ⟨g, he, hrow, -⟩
    obtain ⟨-, hg2⟩ := row_block hrow
    refine ⟨_, he, g, ?_, ?_⟩
    · rw [rowOf_size, hm]
    · rw [hg2]; simp [rowOf]
end
end Go.Proofs.Ytgkakgibgfehaaa.Ph

namespace Go.Proofs.Ytgkakgibgfehaaa.Ph
open Go.Conc Go.ConcN Go.RowKit Go.ConcR.Gen Go.ConcN.Gen Go.Proofs.Ytgkakgibgfehaaa.Sim Go.Proofs.Ytgkakgibgfehaaa.Md
open Go.ConcR (WgAt wgBlock Payload)
noncomputable def opsM11 : Array Oper := opsC (fstC rest11)
theorem rest11_eq : rest11 = .seq (.region 11 opsM11 false) .ret := rfl
section
variable {Sb : Nat → Prop} {B : Nat} {a : Act} {c1' : Frame} {bs : List Frame} {w : World}
/-- From behind Wait to the return. -/
theorem tail_walk {ba : Nat} {pv : Option Addr} {n c : Nat} (hd : a.defers = []) (hs : 28 ≤ a.tmps.size) (h6 : a.eval (.tmp 6) = ptr ba) (hc : w.cell? ⟨ba, 0, none⟩ = some (.slice pv n c)) (hS : ¬ Sb ba) (hB : ba < B) :
    Walk PP Sb B (G (bM.at a (.inRegion ops10 [] :: [.code rest11])) (c1' :: bs)) w (G (c1'.finish (.slice pv n c)) bs) w := by
  have lt : ∀ d, d < 28 → d < a.tmps.size := fun d h => by omega
  rw [rest11_eq]
  refine Walk.idle rfl (fun d => stepG_region_end) (Walk.idle rfl (fun d => stepG_seq) (Walk.idle rfl (fun d => stepG_region) ?_))
  rw [show List.range opsM11.size = [0, 1] from rfl]
  refine Walk.cons (g₁ := G (bM.at (a.put (some 27) (.slice pv n c)) (.inRegion opsM11 [1] :: [.code .ret])) (c1' :: bs)) (w₁ := w) rfl (fun d => ⟨_, step_load (P := PP) (b := bM) (o := oAt opsM11 0) (w := w.at d) rfl rfl (by decide) rfl h6 (show (w.at d).cell? _ = _ from hc) Try.isAgg67 (fun _ _ => by kernel_rfl) loudM, fun e he => ?_⟩) ?_
  · obtain rfl : e = ⟨.cell ⟨ba, 0, none⟩, false, false⟩ := by simpa using he
    exact evL_cell ⟨ba, 0, none⟩ false hS hB
  refine Walk.idle (g₁ := G (bM.at ((a.put (some 27) (.slice pv n c)).put (some 4) (.slice pv n c)) (.inRegion opsM11 [] :: [.code .ret])) (c1' :: bs)) (w₁ := w) rfl (fun d => step_assign (b := bM) (o := oAt opsM11 1) rfl rfl (by decide) rfl (by
    show (a.put (some 27) (.slice pv n c)).eval (.tmp 27) = _
    rw [eval_put (lt _ (by decide)), if_pos rfl])) ?_
  refine Walk.idle rfl (fun d => stepG_region_end) (Walk.idle (w₁ := w) rfl (fun d => stepG_ret') ?_)
  refine Walk.idle (w₁ := w) rfl (fun d => ?_) (Walk.nil _ _)
  have k4 : (((a.put (some 27) (.slice pv n c)).put (some 4) (.slice pv n c))).eval (.tmp 4) = .slice pv n c := by rw [eval_put (by rw [put_size]; exact lt _ (by decide)), if_pos rfl]
  have hrs := results_tmp (P := PP) (w := w.at d) Try.results52 ((a.put (some 27) (.slice pv n c)).put (some 4) (.slice pv n c)).tmps
  rw [show ((a.put (some 27) (.slice pv n c)).put (some 4) (.slice pv n c)).tmps.getD 4 undef = .slice pv n c from k4] at hrs
  exact stepG_leave (P := PP) (main := true) (b := bM) (a := (a.put (some 27) (.slice pv n c)).put (some 4) (.slice pv n c)) (todo := [.code .ret]) (c := c1') (cs := bs) (w := w.at d) rfl hd Try.func52 hrs (events_results_tmp Try.results52 _ _)
/-- The world at the loop's head. -/
theorem headW_facts (X : World) (n m : Nat) (rb : Nat → Nat) : (headW X n).heap.size = X.heap.size + 3 ∧ (∀ b, b < X.heap.size → (headW X n).heap[b]? = X.heap[b]?) ∧ (headW X n).heap[X.heap.size]? = some (.cells (rowsC n m 0 rb) 27 (0, 0)) ∧
    (headW X n).heap[X.heap.size + 1]? = some (.cells #[.slice (some ⟨X.heap.size, 0, none⟩) n n] 67 (0, 0)) ∧ (headW X n).heap[X.heap.size + 2]? = some (.cells #[.int .u64 0, .int .u32 0] 110 (0, 0)) := by
  have s1 : (X.alloc (.cells (madeCells (Value.slice none 0 0).cells (n * 1)) 27)).heap.size = X.heap.size + 1 := by simp
  have s2 : ((X.alloc (.cells (madeCells (Value.slice none 0 0).cells (n * 1)) 27)).alloc (.cells #[.slice none 0 0] 67)).heap.size = X.heap.size + 2 := by simp
  have n1 := heap_alloc_new X (.cells (madeCells (Value.slice none 0 0).cells (n * 1)) 27)
  have n2 := heap_alloc_new (X.alloc (.cells (madeCells (Value.slice none 0 0).cells (n * 1)) 27)) (.cells #[.slice none 0 0] 67)
  have o1 : ∀ b, b < X.heap.size → (X.alloc (.cells (madeCells (Value.slice none 0 0).cells (n * 1)) 27)).heap[b]? = X.heap[b]? := fun b hb => Below.heap_alloc _ _ _ hb
  rw [rowsC_made n m rb] at n1 n2 o1 s1 s2
  unfold headW
  rw [rowsC_made n m rb]
  generalize X.alloc (.cells (rowsC n m 0 rb) 27) = X1 at *
  rw [s1] at n2
  have o2 : ∀ b, b < X1.heap.size → (X1.alloc (.cells #[.slice none 0 0] 67)).heap[b]? = X1.heap[b]? := fun b hb => Below.heap_alloc _ _ _ hb
  generalize X1.alloc (.cells #[.slice none 0 0] 67) = X2 at *
  have n3 := heap_setCell_same X2 (X.heap.size + 1) 0 _ _ (.slice (some ⟨X.heap.size, 0, none⟩) n n) n2
  have o3 : ∀ b, b ≠ X.heap.size + 1 → (X2.setCell ⟨X.heap.size + 1, 0, none⟩ (.slice (some ⟨X.heap.size, 0, none⟩) n n)).heap[b]? = X2.heap[b]? := fun b hb => heap_setCell_other X2 ⟨X.heap.size + 1, 0, none⟩ b _ hb
  have s3 : (X2.setCell ⟨X.heap.size + 1, 0, none⟩ (.slice (some ⟨X.heap.size, 0, none⟩) n n)).heap.size = X.heap.size + 2 := by rw [← s2]; simp [World.setCell]
  generalize X2.setCell ⟨X.heap.size + 1, 0, none⟩ (.slice (some ⟨X.heap.size, 0, none⟩) n n) = X3 at *
  have o4 : ∀ b, b < X3.heap.size → (X3.alloc (.cells #[.int .u64 0, .int .u32 0] 110)).heap[b]? = X3.heap[b]? := fun b hb => Below.heap_alloc _ _ _ hb
  have n4 := heap_alloc_new X3 (.cells #[.int .u64 0, .int .u32 0] 110)
  rw [s3] at n4
  refine ⟨by simp [s3], fun b hb => ?_, ?_, ?_, n4⟩
  · rw [o4 b (by omega), o3 b (by omega), o2 b (by omega), o1 b hb]
  · rw [o4 _ (by omega), o3 _ (by omega), o2 _ (by omega)]
    exact n1
  · rw [o4 _ (by omega), n3]
    rfl
end
end Go.Proofs.Ytgkakgibgfehaaa.Ph

namespace Go.Proofs.Ytgkakgibgfehaaa.Ph
open Go.Conc Go.ConcN Go.RowKit Go.ConcR.Gen Go.ConcN.Gen Go.Proofs.Ytgkakgibgfehaaa.Sim Go.Proofs.Ytgkakgibgfehaaa.Md
open Go.ConcR (WgAt wgBlock Payload)
theorem Shape.keep {c : Array Value} {w W : World} {pa : Option Addr} {l ca m cb : Nat} {pb : Addr} (S : Shape c w pa l ca pb m cb) (h : ∀ b, b < w.heap.size → W.heap[b]? = w.heap[b]?) : Shape c W pa l ca pb m cb := by
  have hc : ∀ {a : Addr} {v : Value}, w.cell? a = some v → W.cell? a = some v := fun {a v} hv => by
    obtain ⟨C, e, fr, h1, -, -⟩ := cell_some hv
    rw [cell_of (h _ (Array.getElem?_eq_some_iff.1 h1).1)]
    exact hv
  refine ⟨S.s0, S.s1, S.short, S.short', S.room, S.room', S.pos, S.nilEmpty, fun i hi => ?_, fun j hj => ?_⟩
  · obtain ⟨ad, h1, ⟨s, h2, h3⟩, n, h4⟩ := S.piles i hi
    exact ⟨ad, h1, ⟨s, hc h2, h3⟩, n, hc h4⟩
  · obtain ⟨t, h1⟩ := S.bools j hj
    exact ⟨t, hc h1⟩
section
variable {sh : Nat → Nat} {Z : Nat → Prop} {Sb : Nat → Prop} {R : Ren} {c1' : Frame} {bs : List Frame} {w w' : World} {gs : Array Goroutine} {t : Trace} {q : Nat → Nat} {sl : Option (Nat × Nat)}
theorem company {c' : Array Value} {pa pa' : Option Addr} {l ca m cb : Nat} {pb pb' : Addr} {ps : List Pl} {L : List Bool} (S' : Shape c' w' pa' l ca pb' m cb) (hv : VRel (okS sh) R (.slice pa l ca) (.slice pa' l ca)) (hvb : VRel (okS sh) R (.slice (some pb) m cb) (.slice (some pb') m cb)) (hps : IsPiles w' pa' l ca ps) (hsm : Small ps) (hbs : IsBools w' (some pb') m cb L)
    (hpa : 0 < l → ∃ b off, pa = some ⟨b, off, none⟩) (hN : Near (okS sh) tabs (fzB Z) R w w') (hsafe : ∀ b b', R b b' → ¬ Sb b') (hold : ∀ b, Sb b → b < w'.heap.size) (hT : Team PP (shun Sb) w'.heap.size gs (G (Frame.enter PP 52 c' .normal) (c1' :: bs)) t q) :
    ∃ N gs', ∃ w2 : World, ∃ sl' t' q' Sb' C rb, runNT PP N (crowd gs w' sl) t = (.next (crowd gs' w2 sl'), t') ∧ Team PP (shun Sb') w2.heap.size gs' (G (c1'.finish (.slice (some ⟨C, 0, none⟩) (partsOf l) (partsOf l))) bs) t' q' ∧ (∀ b, b < w'.heap.size → w2.heap[b]? = w'.heap[b]?) ∧ w'.heap.size ≤ w2.heap.size ∧ w2.os = w'.os ∧ w2.output = w'.output ∧ w2.tape = w'.tape ∧
      (∀ b b', R b b' → ¬ Sb' b') ∧ (∀ b, Sb' b → b < w2.heap.size) ∧ w'.heap.size ≤ C ∧ ¬ Sb' C ∧ w2.heap[C]? = some (.cells (rowsC (partsOf l) m (partsOf l) rb) 27 (0, 0)) ∧
      ∀ i, i < partsOf l → w'.heap.size ≤ rb i ∧ rb i ≠ C ∧ ¬ Sb' (rb i) ∧ w2.heap[rb i]? = some (.cells (rowOf L ps l i) 3 (0, 0)) ∧ ∀ j, j < partsOf l → rb j = rb i → j = i := by
  have hl : l ≤ 1048600 := by have : (l : Int) < 1048601 := S'.short; omega
  have hLm : L.length = m := hbs.1
  obtain ⟨N1, gs1, sl1, t1, q1, d, Sb1, a, X, pv, cp, r1, T1, hA, hX1, hX2, hX3, hX4, hX5, hX6, hs1, hs1b, ho1, hparts⟩ := to_loop (sl := sl) hl S'.room S'.s0 S'.s1 hpa hv hvb hN hsafe hold hT
  obtain ⟨f1, f2, f3, f4, f5⟩ := headW_facts X (partsOf l) m (fun _ => 0)
  obtain ⟨W, hW⟩ : ∃ W, W = (headW X (partsOf l)).at d := ⟨_, rfl⟩
  have g1 : W.heap.size = X.heap.size + 3 := by rw [hW]; exact f1
  have g2 : ∀ b, b < X.heap.size → W.heap[b]? = X.heap[b]? := by rw [hW]; exact f2
  have g3 : W.heap[X.heap.size]? = some (.cells (rowsC (partsOf l) m 0 fun _ => 0) 27 (0, 0)) := by rw [hW]; exact f3
  have g4 : W.heap[X.heap.size + 1]? = some (.cells #[.slice (some ⟨X.heap.size, 0, none⟩) (partsOf l) (partsOf l)] 67 (0, 0)) := by rw [hW]; exact f4
  have g5 : W.heap[X.heap.size + 2]? = some (.cells #[.int .u64 0, .int .u32 0] 110 (0, 0)) := by rw [hW]; exact f5
  have g6 : W.os = w'.os ∧ W.output = w'.output ∧ W.tape = w'.tape := by rw [hW]; exact ⟨hX4, hX5, hX6⟩
  rw [← hW] at r1
  clear hW f1 f2 f3 f4 f5
  have hkeep : ∀ b, b < w'.heap.size → W.heap[b]? = w'.heap[b]? := fun b hb => (g2 b (by omega)).trans (hX2 b hb)
  have hBel : Below w'.heap.size w' W := ⟨g6.1, g6.2.2, g6.2.1, by omega, hkeep⟩
  have SW := Shape.keep S' hkeep
  obtain ⟨ad', hadl, badr, hadr⟩ : ∃ ad' : Addr, (0 < l → pa' = some ad') ∧ ∃ b, R b ad'.block := by
    by_cases h : 0 < l
    · obtain ⟨b, off, e⟩ := hpa h
      subst e
      cases hv with
      | slice _ _ x => exact ⟨_, fun _ => rfl, _, x.1⟩
    · cases hvb with
      | slice _ _ x => exact ⟨pb', fun h' => absurd h' h, _, x.1⟩
  obtain ⟨bpb, hpbr⟩ : ∃ b, R b pb'.block := by cases hvb with | slice _ _ x => exact ⟨_, x.1⟩
  have hadb := hN.below hadr
  have hpbb := hN.below hpbr
  have glob := hN.big.2
  obtain ⟨kn, hkn⟩ : ∃ kn : Kn, kn = ⟨fun b => b = w'.heap.size ∨ b = X.heap.size + 1 ∨ b = ad'.block ∨ b = pb'.block ∨ (0 < partsOf l ∧ ∃ a, pv = some a ∧ b = a.block), fun _ => False⟩ := ⟨_, rfl⟩
  have kfz : ∀ b, kn.fz b → b < X.heap.size + 2 ∧ ¬ Sb1 b ∧ b ≠ X.heap.size := by
    intro b hb
    rw [hkn] at hb
    rcases hb with rfl | rfl | rfl | rfl | ⟨h0, a1, h1, rfl⟩
    · exact ⟨by omega, hs1b, by omega⟩
    · exact ⟨by omega, fun h => by have := ho1 _ h; omega, by omega⟩
    · exact ⟨by omega, hs1 _ _ hadr, by omega⟩
    · exact ⟨by omega, hs1 _ _ hpbr, by omega⟩
    · obtain ⟨a2, a3, e1, -, e3, e4, -⟩ := hparts 0 h0
      rw [h1] at e1
      cases e1
      exact ⟨by omega, e4, by omega⟩
  have kmu : ∀ b, ¬ kn.mu b := by rw [hkn]; exact fun _ h => h
  have kon : ∀ b, kn.on b → kn.fz b := fun b h => h.elim id fun x => absurd x (kmu b)
  have hMF : MF (X.heap.size + 2) X.heap.size w'.heap.size (X.heap.size + 1) (partsOf l) pv (partVal ad' l) (.slice (some pb') m cb) (fun b => b = ad'.block ∨ b = pb'.block) W kn W := by
    refine ⟨by rw [hkn]; exact .inl rfl, by rw [hkn]; exact .inr (.inl rfl), fun i hi => ?_, ?_, ?_, fun b hb => ⟨by rw [hkn]; exact hb.elim (fun x => .inr (.inr (.inl x))) fun x => .inr (.inr (.inr (.inl x))), rfl⟩, fun h => (kfz _ (kon _ h)).2.2 rfl, fun h => by have := (kfz _ (kon _ h)).1; omega, by omega, by omega, fun b h => by have := (kfz _ (kon _ h)).1; omega⟩
    · obtain ⟨a2, a3, e1, e2, e3, e4, e5⟩ := hparts i hi
      have hl0 : 0 < l := by unfold partsOf at hi; omega
      rw [hadl hl0] at e2
      cases e2
      exact ⟨a2, e1, by rw [hkn]; exact .inr (.inr (.inr (.inr ⟨by omega, _, e1, rfl⟩))), (cell_of (by rw [add_block']; exact g2 _ e3)).trans e5⟩
    · have := (g2 _ hX1).trans hX3
      unfold World.cell?
      rw [this]
      rfl
    · unfold World.cell?
      rw [g4]
      rfl
  have hphase := phase_run (sh := shift W ad' pb' l) (FL := fsL) (Q := fun p => RowQ 3 (rowOf L ps l p)) (PV := fun p => RowPV 3 (rowOf L ps l p)) (Wg := X.heap.size + 2) (C := X.heap.size) (bl := w'.heap.size) (ba := X.heap.size + 1) (n := partsOf l) (pc := cp) (B := X.heap.size + 2) (pa := pv) (vps := partVal ad' l) (vl := .slice (some pb') m cb) (Base := fun b => b = ad'.block ∨ b = pb'.block) (W0 := W) (X := kn) (w := W) (cs := c1' :: bs) (a := a) (Sb := Sb1) (sl := sl1)
    (fun Fz _ _ => progsW _ Fz) (by unfold partsOf; omega) (by omega) (fun i _ => ⟨_, _, _, rfl⟩)
    (fun i hi X0 w0 hF => by
      have hl0 : 0 < l := by unfold partsOf at hi; omega
      have e := hadl hl0
      subst e
      exact begin_ours SW trivial trivial (by omega) (hps.below hBel) hsm (hbs.below hBel) i hi X0 w0 hF)
    T1 (Nat.le_refl _) (by omega) (fun b hb => by have := ho1 b hb; omega) (fun h => by have := ho1 _ h; omega) hA hMF kmu (fun b hb => (kfz b hb).2.1) (fun b hb => (kfz b hb).2.2) (fun b hb => by have := (kfz b hb).1; omega) g5 ⟨_, g3, by simp [rowsC]⟩
  obtain ⟨N2, gs2, w2, sl2, t2, q2, a2, r2, T2, hA2, hk2, hsz2, ho2, hou2, ht2, ⟨cs2, hcs2, hcsn⟩, own, hown0, hrows⟩ := hphase
  have hba2 : w2.heap[X.heap.size + 1]? = some (.cells #[.slice (some ⟨X.heap.size, 0, none⟩) (partsOf l) (partsOf l)] 67 (0, 0)) := (hk2 _ (by omega) (by omega) (by omega)).trans g4
  have W3 := tail_walk (Sb := fun b => Sb1 b ∨ b = X.heap.size + 2) (B := w2.heap.size) (a := a2) (c1' := c1') (bs := bs) (w := w2) (ba := X.heap.size + 1) (pv := some ⟨X.heap.size, 0, none⟩) (n := partsOf l) (c := partsOf l) hA2.defers hA2.size hA2.s6 (by unfold World.cell?; rw [hba2]; rfl) (fun h => h.elim (fun x => by have := ho1 _ x; omega) fun x => by omega) (by omega)
  obtain ⟨N3, gs3, sl3, t3, q3, d3, r3, -, T3⟩ := beside_walk W3 (Nat.le_refl _) (sl := sl2) w2.drawn T2
  have hpos : 0 < gs1.size := (Array.getElem?_eq_some_iff.1 T1.zero).1
  obtain ⟨rb, hrb⟩ : ∃ rb : Nat → Nat, ∀ i, i < partsOf l → w2.cell? ⟨X.heap.size, i, none⟩ = some (.slice (some ⟨rb i, 0, none⟩) m m) ∧ own (rb i) = gs1.size + i ∧ w2.heap[rb i]? = some (.cells (rowOf L ps l i) 3 (0, 0)) := by
    have h1 : ∀ i, ∃ r : Nat, i < partsOf l → w2.cell? ⟨X.heap.size, i, none⟩ = some (.slice (some ⟨r, 0, none⟩) m m) ∧ own r = gs1.size + i ∧ w2.heap[r]? = some (.cells (rowOf L ps l i) 3 (0, 0)) := by
      intro i
      by_cases hi : i < partsOf l
      · obtain ⟨v, r, ro, e1, e2, e3, e4, e5⟩ := hrows i hi
        subst e4
        subst e5
        refine ⟨r, fun _ => ⟨?_, e2, e3⟩⟩
        have e1' : w2.cell? ⟨X.heap.size, i, none⟩ = _ := e1
        rw [rowOf_size, hLm] at e1'
        exact e1'
      · exact ⟨0, fun h => absurd h hi⟩
    exact ⟨fun i => (h1 i).choose, fun i => (h1 i).choose_spec⟩
  have hge : ∀ i, i < partsOf l → W.heap.size ≤ rb i := by
    intro i hi
    rcases Nat.lt_or_ge (rb i) W.heap.size with h | h
    · have := hown0 _ h
      have := (hrb i hi).2.1
      omega
    · exact h
  refine ⟨N1 + (N2 + N3), gs3, w2.at d3, sl3, t3, q3, fun b => Sb1 b ∨ b = X.heap.size + 2, X.heap.size, rb, (Sim.runNT_add N1 _ _ _ r1).trans ((Sim.runNT_add N2 _ _ _ r2).trans r3), T3, fun b hb => (hk2 b (by omega) (by omega) (by omega)).trans (hkeep b hb), by show w'.heap.size ≤ w2.heap.size; omega, ho2.trans g6.1, hou2.trans g6.2.1, ht2.trans g6.2.2, fun b b' x h => h.elim (hs1 b b' x) fun e => by have := hN.below x; omega, fun b h => by
    show b < w2.heap.size
    rcases h with h | h
    · have := ho1 b h; omega
    · omega, by omega, fun h => h.elim (fun x => by have := ho1 _ x; omega) fun x => by omega, ?_, fun i hi => ⟨by have := hge i hi; omega, by have := hge i hi; omega, fun h => h.elim (fun x => by have := ho1 _ x; have := hge i hi; omega) fun x => by have := hge i hi; omega, (hrb i hi).2.2, fun j hj e => by
      have h1 := (hrb j hj).2.1
      have h2 := (hrb i hi).2.1
      rw [e] at h1
      omega⟩⟩
  show w2.heap[X.heap.size]? = _
  rw [hcs2]
  congr 2
  apply Array.ext
  · rw [hcsn]; simp [rowsC]
  · intro i h1 h2
    have hi : i < partsOf l := by omega
    have e1 := (hrb i hi).1
    unfold World.cell? at e1
    rw [hcs2] at e1
    have e2 : cs2[i]? = some (.slice (some ⟨rb i, 0, none⟩) m m) := by simpa using e1
    have e3 := rowsC_get (m := m) (i := partsOf l) (rb := rb) hi
    rw [if_pos hi] at e3
    rw [Array.getElem?_eq_getElem h1] at e2
    rw [Array.getElem?_eq_getElem h2] at e3
    exact (Option.some.inj e2).trans (Option.some.inj e3).symm
end
end Go.Proofs.Ytgkakgibgfehaaa.Ph

namespace Go.Proofs.Ytgkakgibgfehaaa.Ph
open Go.Conc Go.ConcN Go.RowKit Go.Proofs.Ytgkakgibgfehaaa.Sim Go.Proofs.Ytgkakgibgfehaaa.Md
section
variable {sh : Nat → Nat} {Z : Nat → Prop} {R : Ren} {w w' : World}
theorem near_piles (hN : Near (okS sh) tabs (fzB Z) R w w') {pa pa' : Option Addr} {l ca : Nat} {ps : List Pl} (hv : VRel (okS sh) R (.slice pa l ca) (.slice pa' l ca)) (h : IsPiles w pa l ca ps) : IsPiles w' pa' l ca ps := by
  obtain ⟨k1, k2, k3, k4⟩ := h
  refine ⟨k1, k2, k3, fun h0 => ?_⟩
  obtain ⟨b, off, e, hb, hc⟩ := k4 h0
  subst e
  cases hv with
  | slice _ _ x =>
    rename_i a'
    obtain ⟨b', off', sp'⟩ := a'
    obtain ⟨x1, x2, x3⟩ := x
    simp only at x1 x2 x3
    subst x3
    have x2' : off' = off + sh b := x2
    refine ⟨b', off', rfl, hN.below x1, fun j hj => ?_⟩
    obtain ⟨c1, c2⟩ := hc j hj
    obtain ⟨v1, d1, e1⟩ := near_cells hN (a := ⟨b, off + j * 2, none⟩) (a' := ⟨b', off' + j * 2, none⟩) ⟨x1, by show off' + j * 2 = off + j * 2 + sh b; omega, rfl⟩ c1
    obtain ⟨v2, d2, e2⟩ := near_cells hN (a := ⟨b, off + j * 2 + 1, none⟩) (a' := ⟨b', off' + j * 2 + 1, none⟩) ⟨x1, by show off' + j * 2 + 1 = off + j * 2 + 1 + sh b; omega, rfl⟩ c2
    cases e1
    cases e2
    exact ⟨d1, d2⟩
theorem near_bools (hN : Near (okS sh) tabs (fzB Z) R w w') {pa pa' : Option Addr} {l ca : Nat} {L : List Bool} (hv : VRel (okS sh) R (.slice pa l ca) (.slice pa' l ca)) (h : IsBools w pa l ca L) : IsBools w' pa' l ca L := by
  obtain ⟨k1, k2, k3, k4⟩ := h
  refine ⟨k1, k2, k3, fun h0 => ?_⟩
  obtain ⟨b, off, e, hb, hc⟩ := k4 h0
  subst e
  cases hv with
  | slice _ _ x =>
    rename_i a'
    obtain ⟨b', off', sp'⟩ := a'
    obtain ⟨x1, x2, x3⟩ := x
    simp only at x1 x2 x3
    subst x3
    have x2' : off' = off + sh b := x2
    refine ⟨b', off', rfl, hN.below x1, fun j hj => ?_⟩
    obtain ⟨v1, d1, e1⟩ := near_cells hN (a := ⟨b, off + j, none⟩) (a' := ⟨b', off' + j, none⟩) ⟨x1, by show off' + j = off + j + sh b; omega, rfl⟩ (hc j hj)
    cases e1
    exact d1
/-- The blocks of both sides behind the call. -/
def R3 (R : Ren) (C C' n : Nat) (rb rb' : Nat → Nat) : Ren := fun b b' => R b b' ∨ (b = C ∧ b' = C') ∨ ∃ i, i < n ∧ b = rb i ∧ b' = rb' i
theorem near_rows {w2 w2' : World} {C C' n m : Nat} {rb rb' : Nat → Nat} {zs : Nat → Array Value} (hN : Near (okS sh) tabs (fzB Z) R w w') (hR : RowsAt w w2 C n m n rb zs) (hz : ∀ i, i < n → ∀ (k : Nat) v, (zs i)[k]? = some v → Flat v)
    (hk : ∀ b, b < w'.heap.size → w2'.heap[b]? = w'.heap[b]?) (hs : w'.heap.size ≤ w2'.heap.size) (ho : w2'.os = w'.os) (hC : w'.heap.size ≤ C') (hCc : w2'.heap[C']? = some (.cells (rowsC n m n rb') 27 (0, 0)))
    (hrb : ∀ i, i < n → w'.heap.size ≤ rb' i ∧ rb' i ≠ C' ∧ w2'.heap[rb' i]? = some (.cells (zs i) 3 (0, 0)) ∧ ∀ j, j < n → rb' j = rb' i → j = i) :
    Near (okS sh) tabs (fzB Z) (R3 R C C' n rb rb') w2 w2' := by
  have lt : ∀ b b', R b b' → b < w.heap.size ∧ b' < w'.heap.size := fun b b' x => by
    obtain ⟨o, o', h1, h2, -⟩ := hN.obj _ _ x
    exact ⟨(Array.getElem?_eq_some_iff.1 (show w.heap[b]? = some o from h1)).1, (Array.getElem?_eq_some_iff.1 h2).1⟩
  have hc0 := hR.c0
  have rC : ∀ i, i < n → C < rb i := fun i hi => (hR.rows i hi).1
  have rinj : ∀ i j, i < n → j < n → rb i = rb j → i = j := by
    intro i j hi hj e
    rcases Nat.lt_trichotomy i j with h | h | h
    · have := hR.inc i j h hj; omega
    · exact h
    · have := hR.inc j i h hi; omega
  have le : Sim.Le R (R3 R C C' n rb rb') := fun _ _ x => .inl x
  have bg := hN.big
  have zlt : ∀ b, Z b → b < w.heap.size := fun b hb => by
    obtain ⟨c, e, fr, h1, -⟩ := hN.fz b hb
    exact (Array.getElem?_eq_some_iff.1 (show w.heap[b]? = _ from h1)).1
  have shz : ∀ b, w.heap.size ≤ b → sh b = 0 := fun b hb => hN.new b hb
  refine ⟨?_, ?_, ?_, fun b hb => hN.new b (Nat.le_trans hR.below.size hb), fun b hb => ?_, ?_, ⟨Nat.le_trans bg.1 hR.below.size, Nat.le_trans bg.2 hs⟩, ho.trans (hN.os.trans hR.below.os.symm), fun _ _ => rfl⟩
  · rintro b b' c' (x | ⟨rfl, rfl⟩ | ⟨i, hi, rfl, rfl⟩) (y | ⟨e, rfl⟩ | ⟨j, hj, e, rfl⟩)
    · exact hN.one _ _ _ x y
    · have := (lt _ _ x).1; omega
    · have := (lt _ _ x).1; have := rC j hj; omega
    · have := (lt _ _ y).1; omega
    · rfl
    · have := rC j hj; omega
    · have := (lt _ _ y).1; have := rC i hi; omega
    · have := rC i hi; omega
    · rw [rinj i j hi hj e]
  · rintro b c b' (x | ⟨rfl, rfl⟩ | ⟨i, hi, rfl, rfl⟩) (y | ⟨rfl, e⟩ | ⟨j, hj, rfl, e⟩)
    · exact hN.inj _ _ _ x y
    · have := (lt _ _ x).2; omega
    · have := (lt _ _ x).2; have := (hrb j hj).1; omega
    · have := (lt _ _ y).2; omega
    · exact .inl rfl
    · exact absurd e.symm (hrb j hj).2.1
    · have := (lt _ _ y).2; have := (hrb i hi).1; omega
    · exact absurd e (hrb i hi).2.1
    · exact .inl (by rw [(hrb j hj).2.2.2 i hi e])
  · rintro b b' (x | ⟨rfl, rfl⟩ | ⟨i, hi, rfl, rfl⟩)
    · obtain ⟨o, o', h1, h2, h3⟩ := hN.obj _ _ x
      obtain ⟨l1, l2⟩ := lt _ _ x
      refine ⟨o, o', (hR.below.block b l1).trans h1, (hk b' l2).trans h2, ?_⟩
      rcases h3 with ⟨a1, a2, a3⟩ | ⟨a1, a2⟩
      · exact .inl ⟨a1, a2, a3.mono le⟩
      · exact .inr ⟨a1, a2.mono le⟩
    · refine ⟨_, _, hR.cells, hCc, .inl ⟨fun x => absurd (zlt _ x) (by omega), shz _ (by omega), .cells _ _ ⟨by simp [rowsC], fun i v v' hv hv' => ?_⟩⟩⟩
      have hi : i < n := by have := (Array.getElem?_eq_some_iff.1 hv).1; simpa [rowsC] using this
      rw [rowsC_get hi, if_pos hi] at hv hv'
      cases hv
      cases hv'
      exact .slice m m ⟨.inr (.inr ⟨i, hi, rfl, rfl⟩), by show 0 = 0 + sh (rb i); rw [shz _ (by have := rC i hi; omega)], rfl⟩
    · refine ⟨_, _, (hR.rows i hi).2, (hrb i hi).2.2.1, .inl ⟨fun x => absurd (zlt _ x) (by have := rC i hi; omega), shz _ (by have := rC i hi; omega), .cells _ _ ⟨rfl, fun k v v' hv hv' => ?_⟩⟩⟩
      rw [hv] at hv'
      cases hv'
      exact (hz i hi k v hv).rel
  · obtain ⟨c, e, fr, h1, h2⟩ := hN.fz b hb
    exact ⟨c, e, fr, (hR.below.block b (zlt b hb)).trans h1, h2⟩
  · rintro b b' (x | ⟨rfl, rfl⟩ | ⟨i, hi, rfl, rfl⟩)
    · exact hN.glob _ _ x
    · have := bg.1
      have := bg.2
      have h1 : tabs.globals.size ≤ w.heap.size := bg.1
      exact ⟨by omega, .inl (by omega)⟩
    · have h1 : tabs.globals.size ≤ w.heap.size := bg.1
      have := bg.2
      have := rC i hi
      have := (hrb i hi).1
      exact ⟨by omega, .inl (by omega)⟩
end
/-- **Jump at countsOfParts.** -/
theorem jump_ours {sh : Nat → Nat} {Z : Nat → Prop} : Jump (okS sh) tabs fsL fsC (fzB Z) 52 := by
  intro Q R c c' w w' Sb gs t q sl c1 cs c1' bs hM hR hN hsafe hold hT
  obtain ⟨pa, l, ca, pb, m, cb, pa', pb', S, S', hpb, hpa⟩ := both_shape hM hR hN
  obtain ⟨pa2, l2, ca2, pb2, m2, cb2, ps, L, C, rb, w2, S2, hps, hsm, hbs, hrows, hdown⟩ := own_down hM fun i ad l k hk x hx _ => by
    have h := rows_getD hR i
    rw [hk] at h
    cases hc : c'.getD i undef <;> rw [hc] at h <;> cases h
    rename_i a' ha
    exact near_far hN (x := x) (b' := a'.block) (by rw [hx]; exact ha.1)
  have e0 := S.s0.symm.trans S2.s0
  have e1 := S.s1.symm.trans S2.s1
  cases e0
  cases e1
  have hv : VRel (okS sh) R (.slice pa l ca) (.slice pa' l ca) := by
    have := rows_getD hR 0
    rwa [S.s0, S'.s0] at this
  have hvb : VRel (okS sh) R (.slice (some pb) m cb) (.slice (some pb') m cb) := .slice m cb hpb
  obtain ⟨N, gs', w2', sl', t', q', Sb', C', rb', r1, T1, k1, k2, k3, k4, k5, k6, k7, k8, k9, k10, k11⟩ := company (sl := sl) S' hv hvb (near_piles hN hv hps) hsm (near_bools hN hvb hbs) (fun h0 => by
    obtain ⟨b, off, e, -⟩ := hps.2.2.2 h0
    exact ⟨b, off, e⟩) hN hsafe hold hT
  have hN2 : Near (okS sh) tabs (fzB Z) (R3 R C C' (partsOf l) rb rb') w2 w2' := near_rows hN hrows (fun i _ k v hk => by
    simp only [rowOf, List.getElem?_toArray, List.getElem?_map, Option.map_eq_some_iff] at hk
    obtain ⟨z, -, rfl⟩ := hk
    exact .int _ z) k1 k2 k3 k8 k10 fun i hi => ⟨(k11 i hi).1, (k11 i hi).2.1, (k11 i hi).2.2.2.1, (k11 i hi).2.2.2.2⟩
  refine ⟨_, w2, hdown, N, gs', w2', sl', t', q', Sb', R3 R C C' (partsOf l) rb rb', .slice (some ⟨C', 0, none⟩) (partsOf l) (partsOf l), r1, T1, ⟨fun _ _ x => .inl x, ?_, k2, fun b' hb' _ => k1 b' hb', k3, k4, k5⟩, .slice _ _ ⟨.inr (.inl ⟨rfl, rfl⟩), by show 0 = 0 + sh C; rw [show sh C = 0 from hN.new C hrows.c0], rfl⟩, hN2, ?_, k7⟩
  · rintro b b' (x | ⟨-, rfl⟩ | ⟨i, hi, -, rfl⟩)
    · exact .inl x
    · exact .inr k8
    · exact .inr (k11 i hi).1
  · rintro b b' (x | ⟨-, rfl⟩ | ⟨i, hi, -, rfl⟩)
    · exact k6 b b' x
    · exact k9
    · exact (k11 i hi).2.2.1
end Go.Proofs.Ytgkakgibgfehaaa.Ph
