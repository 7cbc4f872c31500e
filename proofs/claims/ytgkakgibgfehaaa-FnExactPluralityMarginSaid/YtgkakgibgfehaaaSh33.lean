/-
  What the checker has seen, as lists of piles and of bools; the parts of the list.
  The lone side of the own body: from behind its checks to its return, with the rows that it makes.
-/
import Derived.Test.YtgkakgibgfehaaaSh19
import Derived.Test.YtgkakgibgfehaaaSh23
import Derived.Test.YtgkakgibgfehaaaSh30
namespace Go.Proofs.Ytgkakgibgfehaaa.Md
open Go.RowKit Go.Proofs.Ytgkakgibgfehaaa.Sim Go.Proofs.Ytgkakgibgfehaaa.Ph
section
variable {c : Array Value} {W : World} {pa : Option Addr} {l ca m cb : Nat} {pb : Addr}
theorem add_mk (b off n : Nat) : (⟨b, off, none⟩ : Addr).add n = ⟨b, off + n, none⟩ := by
  unfold Addr.add
  split
  · next h => subst h; rfl
  · rfl
theorem cell_block {w : World} {b off : Nat} {sp : Option Nat} {v : Value} (h : w.cell? ⟨b, off, sp⟩ = some v) : sp = none ∧ b < w.heap.size := by
  obtain ⟨C, e, fr, h1, hs, -⟩ := cell_some h
  exact ⟨hs, (Array.getElem?_eq_some_iff.1 h1).1⟩
theorem Shape.bools_is (S : Shape c W pa l ca pb m cb) : ∃ L, IsBools W (some pb) m cb L := by
  classical
  obtain ⟨f, hf⟩ : ∃ f : Nat → Bool, ∀ j, j < m → W.cell? (pb.add (j * 1)) = some (.bool (f j)) := by
    refine ⟨fun j => if h : j < m then (S.bools j h).choose else false, fun j h => ?_⟩
    simp only [h, dif_pos]
    exact (S.bools j h).choose_spec
  have hpos := S.pos
  have hs : (m : Int) < 1048601 := S.short'
  obtain ⟨b, off, sp⟩ := pb
  have h0 := hf 0 hpos
  rw [Nat.zero_mul, show (⟨b, off, sp⟩ : Addr).add 0 = ⟨b, off, sp⟩ from rfl] at h0
  obtain ⟨rfl, hb⟩ := cell_block h0
  refine ⟨(List.range m).map f, by simp, S.room', by omega, fun _ => ⟨b, off, rfl, hb, fun j hj => ?_⟩⟩
  have := hf j hj
  rw [add_mk, Nat.mul_one] at this
  rw [this]
  simp [hj]
theorem Shape.piles_is (S : Shape c W pa l ca pb m cb) : ∃ ps, IsPiles W pa l ca ps ∧ Small ps := by
  classical
  have hs : (l : Int) < 1048601 := S.short
  obtain ⟨f, g, hf⟩ : ∃ (f : Nat → ByteArray) (g : Nat → Int), ∀ i, i < l → ∃ ad, pa = some ad ∧ W.cell? ((ad.add (i * 2)).add 0) = some (.string (f i)) ∧ ((f i).size : Int) < LIM ∧ W.cell? ((ad.add (i * 2)).add 1) = some (.int .i64 (g i)) := by
    have h1 : ∀ i, ∃ x : ByteArray × Int, i < l → ∃ ad, pa = some ad ∧ W.cell? ((ad.add (i * 2)).add 0) = some (.string x.1) ∧ (x.1.size : Int) < LIM ∧ W.cell? ((ad.add (i * 2)).add 1) = some (.int .i64 x.2) := by
      intro i
      by_cases h : i < l
      · obtain ⟨ad, had, ⟨s, hs1, hs2⟩, n, hn⟩ := S.piles i h
        exact ⟨(s, n), fun _ => ⟨ad, had, hs1, hs2, hn⟩⟩
      · exact ⟨(ByteArray.empty, 0), fun h' => absurd h' h⟩
    exact ⟨fun i => (h1 i).choose.1, fun i => (h1 i).choose.2, fun i h => (h1 i).choose_spec h⟩
  have ht : ∀ i, i < l → tAt ((List.range l).map fun i => (f i, g i)) i = f i := by intro i h; simp [tAt, h]
  have hm : ∀ i, i < l → mAt ((List.range l).map fun i => (f i, g i)) i = g i := by intro i h; simp [mAt, h]
  refine ⟨(List.range l).map fun i => (f i, g i), ⟨by simp, S.room, by omega, fun h0 => ?_⟩, fun i => ?_⟩
  · obtain ⟨⟨b, off, sp⟩, rfl, k1, -, -⟩ := hf 0 h0
    rw [Nat.zero_mul, show ((⟨b, off, sp⟩ : Addr).add 0).add 0 = ⟨b, off, sp⟩ from rfl] at k1
    obtain ⟨rfl, hb⟩ := cell_block k1
    refine ⟨b, off, rfl, hb, fun j hj => ?_⟩
    obtain ⟨ad, had, k1, -, k2⟩ := hf j hj
    cases had
    rw [add_mk, add_mk] at k1 k2
    rw [ht j hj, hm j hj]
    exact ⟨k1, k2⟩
  · by_cases h : i < l
    · rw [ht i h]
      obtain ⟨ad, had, -, k, -⟩ := hf i h
      have k' : ((f i).size : Int) < 1048601 := k
      omega
    · simp only [tAt]
      rw [List.getElem?_eq_none (by simp; omega)]
      decide
end
/-- The part p of the list. -/
def chunkP (ps : List Pl) (l p : Nat) : List Pl := (ps.drop (4 * p)).take (min 4 (l - 4 * p))
theorem IsPiles.chunk {W : World} {b off l ca p : Nat} {ps : List Pl} (h : IsPiles W (some ⟨b, off, none⟩) l ca ps) (hp : 4 * p ≤ l) : IsPiles W (some ⟨b, off + 8 * p, none⟩) (min 4 (l - 4 * p)) (min 4 (l - 4 * p)) (chunkP ps l p) := by
  have h1 := (h.drop (k := 4 * p) (cap' := l - 4 * p) hp (Nat.le_refl _)).take (k := min 4 (l - 4 * p)) (Nat.min_le_right _ _)
  rw [show off + 4 * p * 2 = off + 8 * p by omega] at h1
  obtain ⟨k1, -, k3, k4⟩ := h1
  exact ⟨k1, Nat.le_refl _, k3, k4⟩
theorem Small.chunk {ps : List Pl} (h : Small ps) (l p : Nat) : Small (chunkP ps l p) := by
  intro i
  unfold chunkP
  by_cases hi : i < min 4 (l - 4 * p)
  · rw [tAt_take hi, tAt_drop]
    exact h _
  · unfold tAt
    rw [List.getElem?_eq_none (by rw [List.length_take]; omega)]
    decide
/-- The row of the part p. -/
def rowOf (L : List Bool) (ps : List Pl) (l p : Nat) : Array Value := ((partW L (chunkP ps l p)).map (Value.int .i64)).toArray
theorem rowOf_size (L : List Bool) (ps : List Pl) (l p : Nat) : (rowOf L ps l p).size = L.length := by simp [rowOf, partW_length]
/-- The cells of the list of rows, of which i stand. -/
def rowsC (n m i : Nat) (rb : Nat → Nat) : Array Value := ((List.range n).map fun j => if j < i then Value.slice (some ⟨rb j, 0, none⟩) m m else .slice none 0 0).toArray
theorem rowsC_made (n m : Nat) (rb : Nat → Nat) : madeCells (Value.slice none 0 0).cells (n * 1) = rowsC n m 0 rb := by
  unfold madeCells rowsC
  rw [Nat.mul_one]
  apply Array.ext
  · simp
  · intro i h1 h2
    simp [Value.cells, Nat.mod_one]
theorem rowsC_get {n m i j : Nat} {rb : Nat → Nat} (h : j < n) : (rowsC n m i rb)[j]? = some (if j < i then Value.slice (some ⟨rb j, 0, none⟩) m m else .slice none 0 0) := by simp [rowsC, h]
theorem rowsC_next {n m i : Nat} {rb rb' : Nat → Nat} (h : ∀ j, j < i → rb' j = rb j) : (rowsC n m i rb).setIfInBounds i (.slice (some ⟨rb' i, 0, none⟩) m m) = rowsC n m (i + 1) rb' := by
  apply Array.ext
  · simp [rowsC]
  · intro j h1 h2
    have hj : j < n := by simpa [rowsC] using h2
    have hj1 : j < (rowsC n m i rb).size := by simpa using h1
    rw [Array.getElem_setIfInBounds hj1]
    simp only [rowsC, List.getElem_toArray, List.getElem_map, List.getElem_range]
    by_cases e : i = j
    · subst e; simp
    · by_cases e2 : j < i
      · have e3 : j < i + 1 := by omega
        simp [e, e2, e3, h j e2]
      · have e3 : ¬ j < i + 1 := by omega
        simp [e, e2, e3]
/-- Where i rows stand. -/
structure RowsAt (w wi : World) (C n m i : Nat) (rb : Nat → Nat) (zs : Nat → Array Value) : Prop where
  below : Below w.heap.size w wi
  c0 : w.heap.size ≤ C
  cells : wi.heap[C]? = some (.cells (rowsC n m i rb) 27 (0, 0))
  rows : ∀ j, j < i → C < rb j ∧ wi.heap[rb j]? = some (.cells (zs j) 3 (0, 0))
  inc : ∀ j k, j < k → k < i → rb j < rb k
theorem RowsAt.next {w wi w1 : World} {C n m i g : Nat} {rb : Nat → Nat} {zs : Nat → Array Value} (h : RowsAt w wi C n m i rb zs) (hi : i < n) (hb : Below wi.heap.size wi w1) (hg : wi.heap.size ≤ g) (hrow : w1.heap[g]? = some (.cells (zs i) 3 (0, 0))) :
    RowsAt w (w1.setCell ⟨C, i, none⟩ (.slice (some ⟨g, 0, none⟩) m m)) C n m (i + 1) (fun j => if j = i then g else rb j) zs := by
  have hC : C < wi.heap.size := (Array.getElem?_eq_some_iff.1 h.cells).1
  have hc1 : w1.heap[C]? = some (.cells (rowsC n m i rb) 27 (0, 0)) := (hb.block C hC).trans h.cells
  have hsz : (w1.setCell ⟨C, i, none⟩ (.slice (some ⟨g, 0, none⟩) m m)).heap.size = w1.heap.size := by simp [World.setCell]
  have hw := h.below
  refine ⟨?_, h.c0, ?_, ?_, ?_⟩
  · refine (hw.trans (hb.mono hw.size)).trans ⟨rfl, rfl, rfl, Nat.le_of_eq hsz.symm, fun k hk => ?_⟩
    exact heap_setCell_other w1 ⟨C, i, none⟩ k _ (by have := h.c0; show k ≠ C; omega)
  · rw [heap_setCell_same w1 C i _ _ _ hc1, ← rowsC_next (rb' := fun j => if j = i then g else rb j) (fun j hj => if_neg (by omega))]
    simp
  · intro j hj
    by_cases e : j = i
    · subst e
      simp only [if_true]
      exact ⟨by omega, (heap_setCell_other w1 ⟨C, j, none⟩ g _ (by show g ≠ C; omega)).trans hrow⟩
    · obtain ⟨k1, k2⟩ := h.rows j (by omega)
      simp only [e, if_false]
      have hlt := (Array.getElem?_eq_some_iff.1 k2).1
      exact ⟨k1, ((heap_setCell_other w1 ⟨C, i, none⟩ (rb j) _ (by show rb j ≠ C; omega)).trans (hb.block _ hlt)).trans k2⟩
  · intro j k hjk hk
    by_cases e : k = i
    · subst e
      have hne : ¬ j = k := by omega
      simp only [hne, if_false, if_true]
      have hlt := (Array.getElem?_eq_some_iff.1 (h.rows j hjk).2).1
      omega
    · have hne : ¬ j = i := by omega
      simp only [e, hne, if_false]
      exact h.inc j k hjk (by omega)
end Go.Proofs.Ytgkakgibgfehaaa.Md

namespace Go.Proofs.Ytgkakgibgfehaaa.Md
open Go.Conc Go.ConcN Go.RowKit Go.ConcR.Gen Go.ConcN.Gen Go.Proofs.Ytgkakgibgfehaaa.Sim Go.Proofs.Ytgkakgibgfehaaa.Ph
noncomputable def opsF8 : Array Oper := opsC (fstC (codeF 11))
noncomputable def LF2 : Code := inC (inC (fstC (codeF 12)))
noncomputable def opsF9 : Array Oper := opsC (fstC LF2)
noncomputable def opsF10 : Array Oper := opsC (fstC (tailC 2 LF2))
noncomputable def opsF11 : Array Oper := opsC (fstC (tailC 3 LF2))
noncomputable def opsF12 : Array Oper := opsC (fstC (tailC 4 LF2))
noncomputable def opsF13 : Array Oper := opsC (tailC 5 LF2)
noncomputable def opsF14 : Array Oper := opsC (fstC (codeF 13))
theorem codeF11_eq : codeF 11 = .seq (.region 8 opsF8 false) (.seq (.block 2 (.loop LF2)) (codeF 13)) := rfl
theorem codeF13_eq : codeF 13 = .seq (.region 14 opsF14 false) .ret := rfl
theorem LF2_eq : LF2 = .seq (.region 9 opsF9 false) (.seq (.cond (.tmp 33) .skip (.exit 2)) (.seq (.region 10 opsF10 false) (.seq (.region 11 opsF11 false) (.seq (.region 12 opsF12 false) (.region 13 opsF13 false))))) := rfl
theorem dF8_0 : (oAt opsF8 0).dst = some 28 := rfl
theorem dF8_1 : (oAt opsF8 1).dst = some 29 := rfl
theorem dF8_2 : (oAt opsF8 2).dst = some 30 := rfl
theorem dF8_3 : (oAt opsF8 3).dst = some 31 := rfl
theorem dF8_4 : (oAt opsF8 4).dst = some 32 := rfl
theorem dF9_0 : (oAt opsF9 0).dst = some 33 := rfl
theorem dF10_0 : (oAt opsF10 0).dst = some 34 := rfl
theorem dF10_1 : (oAt opsF10 1).dst = some 35 := rfl
theorem dF11_0 : (oAt opsF11 0).dst = some 36 := rfl
theorem dF12_0 : (oAt opsF12 0).dst = some 37 := rfl
theorem dF12_1 : (oAt opsF12 1).dst = none := rfl
theorem dF13_0 : (oAt opsF13 0).dst = some 38 := rfl
theorem dF13_1 : (oAt opsF13 1).dst = some 32 := rfl
theorem dF14_0 : (oAt opsF14 0).dst = some 4 := rfl
attribute [local simp] dF8_0 dF8_1 dF8_2 dF8_3 dF8_4 dF9_0 dF10_0 dF10_1 dF11_0 dF12_0 dF12_1 dF13_0 dF13_1 dF14_0
theorem partsU : Tq.prog.underlying 96 = some (.slice (Tq.prog.elem 96)) := by kernel_rfl
theorem partsS : ∀ w, (Go.sizeOf (Tq.prog.elem 96)).run Tq.prog w = .ok 1 w := by
  have : Tq.prog.elem 96 = 23 := by kernel_rfl
  rw [this]
  exact Tq.sizeOf23
theorem rowsU : Tq.prog.underlying 67 = some (.slice (Tq.prog.elem 67)) := by kernel_rfl
theorem rowsS : ∀ w, (Go.sizeOf (Tq.prog.elem 67)).run Tq.prog w = .ok 1 w := by
  have : Tq.prog.elem 67 = 27 := by kernel_rfl
  rw [this]
  exact Tq.sizeOf27
theorem nmChunk : (Tq.f84.name == "runtime.NumGoroutine") = false := by kernel_rfl
theorem nmColl : (Tq.f83.name == "runtime.NumGoroutine") = false := by kernel_rfl
theorem nmParts : (Tq.f88.name == "runtime.NumGoroutine") = false := by kernel_rfl
theorem rowI_info : (Tq.prog.info? 27).map (fun i => (i.zero, i.size, i.bytes)) = some (some (.slice none 0 0), 1, 24) := by kernel_rfl
/-- What stands in a row that the call of partCounts has made. -/
theorem row_block {w : World} {base n g : Nat} {e : TypeId} {xs : List Value} (h : w.ownsRow base e 1 (.slice (some ⟨g, 0, none⟩) n n) n xs) : base ≤ g ∧ w.heap[g]? = some (.cells xs.toArray e (0, 0)) := by
  obtain ⟨h0, ⟨h1, -⟩ | ⟨g', cap, cur, h1, h2, h3, h4, h5, h6, h7⟩⟩ := h
  · cases h1
  · cases h1
    refine ⟨h2, ?_⟩
    rw [h3]
    have : cur = xs.toArray := by
      rw [← h7, List.take_of_length_le (by simp; omega)]
    rw [this]
section
variable {Q : Value → World → Prop} {s0 : Frame × List Frame × World} {cs : List Frame} {w : World} {a : Act}
/-- What the slots hold in the loop. -/
structure FB (pa : Option Addr) (l ca : Nat) (pb : Addr) (m cb : Nat) (v : Value) (C n : Nat) (a : Act) : Prop where
  fa : FA pa l ca pb m cb a
  t29 : a.eval (.tmp 29) = v
  t30 : a.eval (.tmp 30) = .int .i64 n
  t31 : a.eval (.tmp 31) = .slice (some ⟨C, 0, none⟩) n n
theorem FB.put {pa : Option Addr} {l ca m cb : Nat} {pb : Addr} {v0 : Value} {C n : Nat} {a : Act} (h : FB pa l ca pb m cb v0 C n a) {d : Nat} (v : Value) (hd : (d ≠ 0 ∧ d ≠ 1 ∧ d ≠ 5 ∧ d ≠ 6) ∧ d ≠ 29 ∧ d ≠ 30 ∧ d ≠ 31) : FB pa l ca pb m cb v0 C n (a.put (some d) v) :=
  ⟨h.fa.put v hd.1, (eval_put_ne hd.2.1).trans h.t29, (eval_put_ne hd.2.2.1).trans h.t30, (eval_put_ne hd.2.2.2).trans h.t31⟩
theorem rows_loop {pa : Option Addr} {l ca m cb : Nat} {pb : Addr} {v : Value} {C n b off : Nat} {w2 : World} {ps : List Pl} {L : List Bool} (hn : n = partsOf l) (hl : l ≤ 1048600)
    (hP : ∀ j, j < n → ∃ g cp, v = .slice (some ⟨g, 0, none⟩) n cp ∧ g < w2.heap.size ∧ w2.cell? ⟨g, j, none⟩ = some (chunkV b off l j))
    (hps : IsPiles w2 pa l ca ps) (hsm : Small ps) (hbs : IsBools w2 (some pb) m cb L) (hpa : 0 < l → pa = some ⟨b, off, none⟩) :
    ∀ (r i : Nat) (a : Act) (wi : World) (rb : Nat → Nat), r = n - i → i ≤ n → FB pa l ca pb m cb v C n a → a.eval (.tmp 32) = .int .i64 i → RowsAt w2 wi C n m i rb (rowOf L ps l) → (MD Tq.prog Q s0) (bF.at a (.code LF2 :: .inLoop LF2 :: .inBlock 2 :: [.code (codeF 13)])) cs wi →
      ∃ a' rb' w', FB pa l ca pb m cb v C n a' ∧ RowsAt w2 w' C n m n rb' (rowOf L ps l) ∧ (MD Tq.prog Q s0) (bF.at a' [.code (codeF 13)]) cs w' := by
  have hn4 : n ≤ 1048600 := by rw [hn]; unfold partsOf; omega
  intro r
  induction r with
  | zero =>
    intro i a wi rb hr hi hA h32 hR hM
    have lt : ∀ d, d < 48 → d < a.tmps.size := fun d h => by have := hA.fa.size; omega
    obtain rfl : i = n := by omega
    rw [LF2_eq] at hM
    have M1 := hM.seq.region.lss (o := oAt opsF9 0) (i := 0) (rest := []) (m := i) (n := i) rfl rfl rfl (by decide) rfl h32 hA.t30
    obtain ⟨t, ht, M2⟩ := M1.region_end.seq.cond
    have e : t = decide ((i : Int) < i) := by simpa [eval_put, put_size, lt] using ht.symm
    have e2 : t = false := by rw [e]; exact decide_eq_false (by omega)
    subst e2
    exact ⟨_, rb, wi, hA.put (d := 33) _ (by decide), hR, MD.exit M2 rfl⟩
  | succ r ih =>
    intro i a wi rb hr hi hA h32 hR hM
    have lt : ∀ d, d < 48 → d < a.tmps.size := fun d h => by have := hA.fa.size; omega
    have hin : i < n := by omega
    have h4 : 4 * i < l := by rw [hn] at hin; unfold partsOf at hin; omega
    rw [LF2_eq] at hM
    have M1 := hM.seq.region.lss (o := oAt opsF9 0) (i := 0) (rest := []) (m := i) (n := n) rfl rfl rfl (by decide) rfl h32 hA.t30
    obtain ⟨t, ht, M2⟩ := M1.region_end.seq.cond
    have e : t = decide ((i : Int) < n) := by simpa [eval_put, put_size, lt] using ht.symm
    have e2 : t = true := by rw [e]; exact decide_eq_true (by omega)
    subst e2
    obtain ⟨g, cp, hv, hg, hcell⟩ := hP i hin
    have M3 := (MD.skip M2).seq.region
    rw [show List.range opsF10.size = [0, 1] from rfl] at M3
    have M4 := M3.index (o := oAt opsF10 0) (ad := ⟨g, 0, none⟩) (n := n) (c := cp) (j := i) rfl rfl rfl (by decide) rfl (by simpa [eval_put, put_size, lt, hv] using hA.t29) (by simpa [eval_put, put_size, lt] using h32) partsU partsS hin
    rw [add_mk, Nat.zero_add, Nat.mul_one] at M4
    have M5 := M4.loadk (o := oAt opsF10 1) (ad := ⟨g, i, none⟩) (v := chunkV b off l i) rfl rfl rfl (by decide) rfl (by simp [eval_put, put_size, lt]) ((hR.below.cell (p := ⟨g, i, none⟩) hg).trans hcell) Tq.isAgg23
    have M6 := M5.region_end.seq.region
    rw [show List.range opsF11.size = [0] from rfl] at M6
    have hpe := hpa (by omega)
    subst hpe
    have hsz := hR.below.size
    have hpi := (IsPiles.chunk (p := i) (hps.below hR.below) (by omega))
    have hbi := hbs.below hR.below
    have hCall := partCounts_as _ _ _ _ _ _ _ _ wi hpi (Small.chunk hsm l i) hbi
    obtain ⟨vr, w1, ⟨gr, hgr, hrow, hbw⟩, M7⟩ := M6.call (o := oAt opsF11 0) (vs := #[.slice (some ⟨b, off + 8 * i, none⟩) (min 4 (l - 4 * i)) (min 4 (l - 4 * i)), .slice (some pb) m cb]) rfl rfl rfl (by decide) rfl Tq.func88 nmParts rfl (by
      have k1 : a.eval (.tmp 1) = .slice (some pb) m cb := hA.fa.t1
      simp [eval_put, put_size, lt, k1, chunkV]) hCall (fun e w' h => by obtain ⟨g, h, -⟩ := h; exact ⟨_, h⟩)
    cases hgr
    obtain ⟨hg1, hg2⟩ := row_block hrow
    have M8 := M7.region_end.seq.region
    rw [show List.range opsF12.size = [0, 1] from rfl] at M8
    have M9 := M8.index (o := oAt opsF12 0) (ad := ⟨C, 0, none⟩) (n := n) (c := n) (j := i) rfl rfl rfl (by decide) rfl (by simpa [eval_put, put_size, lt] using hA.t31) (by simpa [eval_put, put_size, lt] using h32) rowsU rowsS hin
    rw [add_mk, Nat.zero_add, Nat.mul_one] at M9
    have hC : C < wi.heap.size := (Array.getElem?_eq_some_iff.1 hR.cells).1
    have hc1 : w1.heap[C]? = some (.cells (rowsC n m i rb) 27 (0, 0)) := (hbw.block C hC).trans hR.cells
    have hcc : w1.cell? ⟨C, i, none⟩ = some (.slice none 0 0) := by
      have := rowsC_get (m := m) (i := i) (rb := rb) hin
      rw [if_neg (Nat.lt_irrefl i)] at this
      simp [World.cell?, hc1, this]
    have M10 := M9.store (o := oAt opsF12 1) (ad := ⟨C, i, none⟩) (pa := some ⟨gr, 0, none⟩) (l := m) (c := m) rfl rfl rfl (by decide) rfl (by simp [eval_put, put_size, lt]) (by simp [eval_put, put_size, lt]) hcc (frozen_of_row w1 C i _ _ hc1) Tq.sizeOf27
    have hR1 := hR.next (g := gr) hin hbw hg1 (by rw [hg2]; simp [rowOf])
    rw [show (oAt opsF12 1).dst = none from rfl, put_none] at M10
    have M13 := M10.region_end.region
    rw [show List.range opsF13.size = [0, 1] from rfl] at M13
    have M14 := M13.add (o := oAt opsF13 0) (m := i) (n := 1) rfl rfl rfl (by decide) rfl (by simpa [eval_put, put_size, lt] using h32) rfl
    have M15 := M14.move (o := oAt opsF13 1) (v := .int .i64 (IntKind.wrap .i64 (i + 1))) rfl rfl rfl (by decide) (.inl rfl) (by simp [eval_put, put_size, lt])
    have hA1 := ((((hA.put (d := 33) (.bool (decide ((i : Int) < n))) (by decide)).put (d := 34) (.pointer (some ⟨g, i, none⟩)) (by decide)).put (d := 35) (chunkV b off l i) (by decide)).put (d := 36) (.slice (some ⟨gr, 0, none⟩) m m) (by decide)).put (d := 37) (.pointer (some ⟨C, i, none⟩)) (by decide)
    have hA2 := (hA1.put (d := 38) (.int .i64 (IntKind.wrap .i64 (i + 1))) (by decide)).put (d := 32) (.int .i64 (IntKind.wrap .i64 (i + 1))) (by decide)
    exact ih (i + 1) _ _ _ (by omega) (by omega) hA2 (by
      rw [eval_put (by simp [put_size, lt]), if_pos rfl, Go.wrap_small ((i : Int) + 1) (by omega) (by omega)]
      simp) hR1 M15.region_end.inLoop
/-- From behind the checks to the return. -/
theorem own_rows {c : Array Value} {pa : Option Addr} {l ca m cb : Nat} {pb : Addr} {c1 : Frame} (S : Shape c w pa l ca pb m cb) (hA : FA pa l ca pb m cb a) (hM : (MD Tq.prog Q s0) (bF.at a [.code (codeF 11)]) (c1 :: cs) w) :
    ∃ ps L C rb w2, IsPiles w pa l ca ps ∧ Small ps ∧ IsBools w (some pb) m cb L ∧ RowsAt w w2 C (partsOf l) m (partsOf l) rb (rowOf L ps l) ∧ (MD Tq.prog Q s0) (c1.finish (.slice (some ⟨C, 0, none⟩) (partsOf l) (partsOf l))) cs w2 := by
  obtain ⟨ps, hps, hsm⟩ := Shape.piles_is S
  obtain ⟨L, hbs⟩ := Shape.bools_is S
  have hl : l ≤ 1048600 := by have : (l : Int) < 1048601 := S.short; omega
  have hca := S.room
  have lt : ∀ d, d < 48 → d < a.tmps.size := fun d h => by have := hA.size; omega
  obtain ⟨b, off, hpa⟩ : ∃ b off, 0 < l → pa = some ⟨b, off, none⟩ := by
    by_cases h : 0 < l
    · obtain ⟨b, off, e, -⟩ := hps.2.2.2 h
      exact ⟨b, off, fun _ => e⟩
    · exact ⟨0, 0, fun h' => absurd h' h⟩
  obtain ⟨n, hn⟩ : ∃ n, n = partsOf l := ⟨_, rfl⟩
  have hn4 : n ≤ 1048600 := by rw [hn]; unfold partsOf; omega
  rw [codeF11_eq] at hM
  have M0 := hM.seq.region
  rw [show List.range opsF8.size = [0, 1, 2, 3, 4] from rfl] at M0
  obtain ⟨v0, w0, ⟨Bs, Bn, hv0, hBs, hBn, hc0, hc1, hb0⟩, M1⟩ := M0.call (o := oAt opsF8 0) (vs := #[.slice pa l ca, .int .i64 4]) rfl rfl rfl (by decide) rfl Tq.func84 nmChunk rfl (by
    have k0 := hA.t0
    simp [k0]; rfl) (chunk_as pa l ca w) (fun e w' h => by obtain ⟨_, _, h, -⟩ := h; exact ⟨_, h⟩)
  cases hv0
  obtain ⟨v1, w1, ⟨v, hv, hrow, hb1⟩, M2⟩ := M1.call (o := oAt opsF8 1) (vs := #[.func (.func 105) #[] #[.pointer (some ⟨Bs, 0, none⟩), .pointer (some ⟨Bn, 0, none⟩)]]) rfl rfl rfl (by decide) rfl Tq.func83 nmColl rfl (by
    simp [eval_put, lt]) (collectParts_as Bs Bn pa b off l ca hpa hl hca w0 hBs hBn hc0 hc1) (fun e w' h => by obtain ⟨_, h, -⟩ := h; exact ⟨_, h⟩)
  cases hv
  rw [← hn] at hrow
  have hbw : Below w.heap.size w w1 := hb0.trans (hb1.mono hb0.size)
  obtain ⟨pv, cp, hvs, hP⟩ : ∃ pv cp, v1 = .slice pv n cp ∧ ∀ j, j < n → ∃ g cp, v1 = .slice (some ⟨g, 0, none⟩) n cp ∧ g < w1.heap.size ∧ w1.cell? ⟨g, j, none⟩ = some (chunkV b off l j) := by
    obtain ⟨-, ⟨h1, h2⟩ | ⟨g, cap, cur, h1, h2, h3, h4, h5, h6, h7⟩⟩ := hrow
    · exact ⟨none, 0, by rw [h1, h2], fun j hj => by omega⟩
    · refine ⟨_, _, h1, fun j hj => ⟨g, cap, h1, (Array.getElem?_eq_some_iff.1 h3).1, ?_⟩⟩
      have : cur[j]? = some (chunkV b off l j) := by
        have e := congrArg (fun x => x[j]?) h7
        simp only [Nat.mul_one] at e
        rw [List.getElem?_take_of_lt hj] at e
        simpa [upto, hj] using e
      simp [World.cell?, h3, this]
  obtain ⟨pq, lq, cq, hlen, M3⟩ := M2.len (o := oAt opsF8 2) rfl rfl rfl (by decide) rfl Tq.underlying96
  have hlen' : v1 = .slice pq lq cq := by simpa [eval_put, put_size, lt] using hlen
  rw [hvs] at hlen'
  cases hlen'
  obtain ⟨i0, hi, hz0, hz1, hz2⟩ := info_parts rowI_info
  have M4 := M3.make (o := oAt opsF8 3) (n := n) (inf := i0) (z := .slice none 0 0) rfl rfl rfl (by decide) rfl (by simp [eval_put, put_size, lt]) (by simp [eval_put, put_size, lt]) Tq.underlying67 hi hz0 (by omega) hn4
  have M5 := M4.move (o := oAt opsF8 4) (v := .int .i64 0) rfl rfl rfl (by decide) (.inl rfl) rfl
  rw [hz1, rowsC_made n m (fun _ => 0)] at M5
  have hR : RowsAt w1 (w1.alloc (.cells (rowsC n m 0 fun _ => 0) 27)) w1.heap.size n m 0 (fun _ => 0) (rowOf L ps l) :=
    ⟨(Below.refl _ w1).alloc (Nat.le_refl _) _, Nat.le_refl _, by unfold World.alloc; exact Array.getElem?_push_size, fun j h => by omega, fun j k _ h => by omega⟩
  have hA1 := ((((hA.put (d := 28) (.func (.func 105) #[] #[.pointer (some ⟨Bs, 0, none⟩), .pointer (some ⟨Bn, 0, none⟩)]) (by decide)).put (d := 29) v1 (by decide)).put (d := 30) (.int .i64 n) (by decide)).put (d := 31) (.slice (some ⟨w1.heap.size, 0, none⟩) n n) (by decide)).put (d := 32) (.int .i64 0) (by decide)
  obtain ⟨a2, rb, w2, hB, hR2, M6⟩ := rows_loop (w2 := w1) hn hl hP (hps.below hbw) hsm (hbs.below hbw) hpa n 0 _ _ _ (by omega) (Nat.zero_le _) ⟨hA1, by simp [eval_put, put_size, lt], by simp [eval_put, put_size, lt], by simp [eval_put, put_size, lt]⟩ (by simp [eval_put, put_size, lt]) hR M5.region_end.seq.block.loop
  have hw2 : RowsAt w w2 w1.heap.size n m n rb (rowOf L ps l) :=
    ⟨hbw.trans (hR2.below.mono hbw.size), Nat.le_trans hbw.size hR2.c0, hR2.cells, hR2.rows, hR2.inc⟩
  have lt2 : ∀ d, d < 48 → d < a2.tmps.size := fun d h => by have := hB.fa.size; omega
  rw [codeF13_eq] at M6
  have M7 := M6.seq.region
  rw [show List.range opsF14.size = [0] from rfl] at M7
  have M8 := M7.assign (o := oAt opsF14 0) rfl rfl rfl (by decide) rfl hB.t31
  have M9 := M8.region_end.here (f₁ := { bF.at (a2.put (oAt opsF14 0).dst (.slice (some ⟨w1.heap.size, 0, none⟩) n n)) [.code .ret] with mode := .returning }) rfl stepG_ret'
  rw [← hn]
  refine ⟨ps, L, w1.heap.size, rb, w2, hps, hsm, hbs, hw2, M9.run (n := 1) (by omega) ?_⟩
  have hl : Frame.leaving Tq.prog { bF.at (a2.put (oAt opsF14 0).dst (.slice (some ⟨w1.heap.size, 0, none⟩) n n)) [.code .ret] with mode := .returning } w2 (.returned (.slice (some ⟨w1.heap.size, 0, none⟩) n n)) := by
    rw [dF14_0]
    refine ⟨rfl, hB.fa.df, rfl, _, Tq.func52, ?_⟩
    have k4 : (a2.put (some 4) (.slice (some ⟨w1.heap.size, 0, none⟩) n n)).eval (.tmp 4) = .slice (some ⟨w1.heap.size, 0, none⟩) n n := by rw [eval_put (lt2 4 (by decide)), if_pos rfl]
    have hrs := results_tmp (P := Tq.prog) (w := w2) Tq.results52 (a2.put (some 4) (.slice (some ⟨w1.heap.size, 0, none⟩) n n)).tmps
    rw [show (a2.put (some 4) (.slice (some ⟨w1.heap.size, 0, none⟩) n n)).tmps.getD 4 undef = .slice (some ⟨w1.heap.size, 0, none⟩) n n from k4] at hrs
    exact hrs
  simp only [runN]
  rw [List.cons_append, step_leave_returned hl]
end
/-- **The lone side of the own body.** Its arguments are of the shape that it asks; it goes down to its return, with a list of new rows, each what partCounts makes of its part. -/
theorem own_down {Q : Value → World → Prop} {c : Array Value} {c1 : Frame} {cs : List Frame} {w : World} (hM : Must Tq.prog [junk] Q (Frame.enter Tq.prog 52 c .normal) (c1 :: cs) w)
    (hF : ∀ i ad l k, c.getD i undef = .slice (some ad) l k → ∀ x : Addr, x.block = ad.block → w.cell? x = none → ∃ s, w.farLoad Tq.prog x false = .error (.stuck s)) :
    ∃ pa l ca pb m cb ps L C rb w2, Shape c w pa l ca pb m cb ∧ IsPiles w pa l ca ps ∧ Small ps ∧ IsBools w (some pb) m cb L ∧ RowsAt w w2 C (partsOf l) m (partsOf l) rb (rowOf L ps l) ∧
      Down Tq.prog (Frame.enter Tq.prog 52 c .normal) (c1 :: cs) w (c1.finish (.slice (some ⟨C, 0, none⟩) (partsOf l) (partsOf l))) cs w2 := by
  obtain ⟨pa, l, ca, pb, m, cb, a, S, hA, M⟩ := own_checked (MD.start hM) hF
  obtain ⟨ps, L, C, rb, w2, h1, h2, h3, h4, M2⟩ := own_rows S hA M
  refine ⟨pa, l, ca, pb, m, cb, ps, L, C, rb, w2, S, h1, h2, h3, h4, M2.down.elim (fun e => ?_) id⟩
  exfalso
  have := congrArg (fun x => x.2.1.length) e
  simp at this
end Go.Proofs.Ytgkakgibgfehaaa.Md
