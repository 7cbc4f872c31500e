/-
  COMPANY: countsOfParts from its start to its loop's head, beside goroutines that only leave.
-/
import Derived.KernelRfl
import Derived.Test.YtgkakgibgfehaaaSh27
import Derived.Test.YtgkakgibgfehaaaSh28
import Derived.Test.YtgkakgibgfehaaaSh21
import Derived.Test.YtgkakgibgfehaaaSh14
import Derived.Test.YtgkakgibgfehaaaSh33
namespace Go.Proofs.Ytgkakgibgfehaaa.Ph
open Go.Conc Go.ConcN Go.RowKit Go.ConcR.Gen Go.ConcN.Gen Go.Proofs.Ytgkakgibgfehaaa.Sim
theorem team_up {P : Program} {Sh : Loc → Prop} {B B' : Nat} {gs : Array Goroutine} {g : Goroutine} {t : Trace} {q : Nat → Nat} (hT : Team P Sh B gs g t q) (hB : B ≤ B') : Team P Sh B' gs g t q :=
  ⟨hT.zero, hT.others, hT.past, fun op ho y hy => Loc.low_mono hB (hT.low op ho y hy), hT.quiet, hT.rest, hT.ids⟩
section
variable {sh : Nat → Nat} {Z : Nat → Prop} {Q : Value → World → Prop} {Sb : Nat → Prop} {R : Ren} {c1' : Frame} {bs : List Frame} {w w' : World} {gs : Array Goroutine} {t : Trace} {q : Nat → Nat} {sl : Option (Nat × Nat)}
/-- .. and which leaves what was there as it was. -/
theorem call_still {f : Nat} (hf : (okS sh).ok f = true) (he : (okS sh).ext f = false) (hrd : (okS sh).rd f = true) {args args' : Array Value} (hr : Sim.Rows (okS sh) R args args') (hN : Near (okS sh) tabs (fzB Z) R w w') (hQ : ∀ v w t d, Q v w → Q v (on w t d)) (hS : ∀ v w1, Q v w1 → ∀ k, k < w.heap.size → w1.heap[k]? = w.heap[k]?)
    (hC : ∀ t d, Calls Tr.prog f args (on w t d) fun e w1 => ∃ v, e = .returned v ∧ Q v w1) (hT : Team (prg tabs fsC) (shun Sb) w'.heap.size gs (G (Frame.enter (prg tabs fsC) f args' .normal) (c1' :: bs)) t q)
    (hsafe : ∀ b b', R b b' → ¬ Sb b') (hold : ∀ b, Sb b → b < w'.heap.size) :
    ∃ N gs' sl' t' q' Sb' R₁ w₁ w₁' v v', runNT (prg tabs fsC) N (crowd gs w' sl) t = (.next (crowd gs' w₁' sl'), t') ∧ Team (prg tabs fsC) (shun Sb') w₁'.heap.size gs' (G (c1'.finish v') bs) t' q' ∧ Near (okS sh) tabs (fzB Z) R₁ w₁ w₁' ∧ VRel (okS sh) R₁ v v' ∧ Q v w₁ ∧
      Kept (fzB Z) R w' R₁ w₁' ∧ (∀ b b', R₁ b b' → ¬ Sb' b') ∧ (∀ b, Sb' b → b < w₁'.heap.size) ∧ ∀ b', b' < w'.heap.size → w₁'.heap[b']? = w'.heap[b']? := by
  obtain ⟨N, gs', sl', t', q', Sb', R₁, w₁, w₁', v, v', r1, hT1, hN1, hv, hq, hk, hs1, ho1⟩ := call_beside (sl := sl) hf he hrd hr hN hQ hC hT hsafe hold
  refine ⟨N, gs', sl', t', q', Sb', R₁, w₁, w₁', v, v', r1, hT1, hN1, hv, hq, hk, hs1, ho1, fun b' hb' => ?_⟩
  by_cases h : ∃ b, R b b'
  · obtain ⟨b, x⟩ := h
    obtain ⟨o, o', h1, h2, h3⟩ := hN.obj _ _ x
    obtain ⟨p, p', k1, k2, k3⟩ := hN1.obj _ _ (hk.le _ _ x)
    have h1' : w.heap[b]? = some o := h1
    have k1' : w₁.heap[b]? = some p := k1
    have hlt := (Array.getElem?_eq_some_iff.1 h1').1
    rw [hS v w₁ hq b hlt, h1'] at k1'
    cases k1'
    rcases h3 with ⟨n3, -, h3⟩ | ⟨z3, -⟩
    · rcases k3 with ⟨-, -, k3⟩ | ⟨k3, -⟩
      · rw [k2, h2, (h3.mono hk.le).det hN1.one k3]
      · exact absurd k3 n3
    · refine hk.keep b' hb' fun c y => ?_
      rcases hN.inj _ _ _ x y with rfl | ⟨-, z⟩
      · exact z3
      · exact z
  · exact hk.keep b' hb' fun b x => absurd ⟨b, x⟩ h
/-- The world at the loop's head, of the world behind Collect. -/
def headW (X : World) (n : Nat) : World :=
  (((X.alloc (.cells (madeCells (Value.slice none 0 0).cells (n * 1)) 27)).alloc (.cells #[.slice none 0 0] 67)).setCell ⟨X.heap.size + 1, 0, none⟩ (.slice (some ⟨X.heap.size, 0, none⟩) (n) (n))).alloc (.cells #[.int .u64 0, .int .u32 0] 110)
/-- From the start to the loop's head. -/
theorem to_loop {c' : Array Value} {pa pa' : Option Addr} {l ca m cb : Nat} {pb pb' : Addr} (hl : l ≤ 1048600) (hca : l ≤ ca) (h0 : c'.getD 0 undef = .slice pa' l ca) (h1 : c'.getD 1 undef = .slice (some pb') m cb) (hpa : 0 < l → ∃ b off, pa = some ⟨b, off, none⟩) (hv : VRel (okS sh) R (.slice pa l ca) (.slice pa' l ca)) (hvb : VRel (okS sh) R (.slice (some pb) m cb) (.slice (some pb') m cb))
    (hN : Near (okS sh) tabs (fzB Z) R w w') (hsafe : ∀ b b', R b b' → ¬ Sb b') (hold : ∀ b, Sb b → b < w'.heap.size) (hT : Team PP (shun Sb) w'.heap.size gs (G (Frame.enter PP 52 c' .normal) bs) t q) :
    ∃ N gs1 sl1 t1 q1 d Sb1 a, ∃ X : World, ∃ pv cp, runNT PP N (crowd gs w' sl) t = (.next (crowd gs1 ((headW X (partsOf l)).at d) sl1), t1) ∧
      Team PP (shun Sb1) (X.heap.size + 2) gs1 (headM a bs) t1 q1 ∧ MA (X.heap.size + 2) w'.heap.size (X.heap.size + 1) (partsOf l) cp pv 0 a ∧
      w'.heap.size < X.heap.size ∧ (∀ b, b < w'.heap.size → X.heap[b]? = w'.heap[b]?) ∧ X.heap[w'.heap.size]? = some (.cells #[.slice (some pb') m cb] 24 (0, 0)) ∧ X.os = w'.os ∧ X.output = w'.output ∧ X.tape = w'.tape ∧
      (∀ b b', R b b' → ¬ Sb1 b') ∧ ¬ Sb1 w'.heap.size ∧ (∀ b, Sb1 b → b < X.heap.size) ∧
      ∀ i, i < partsOf l → ∃ ad ad', pv = some ad ∧ pa' = some ad' ∧ ad.block < X.heap.size ∧ ¬ Sb1 ad.block ∧ X.cell? (ad.add i) = some (partVal ad' l i) := by
  obtain ⟨a0, ea0⟩ : ∃ a0 : Act, a0 = ⟨c' ++ Array.replicate (28 - c'.size) undef, []⟩ := ⟨_, rfl⟩
  have hs0 : 28 ≤ a0.tmps.size := by rw [ea0]; simp; omega
  have hget : ∀ k, k < 28 → a0.eval (.tmp k) = c'.getD k undef := by
    intro k hk
    rw [ea0]
    show (c' ++ Array.replicate (28 - c'.size) undef).getD k undef = c'.getD k undef
    rw [Array.getD_eq_getD_getElem?, Array.getD_eq_getD_getElem?, Array.getElem?_append]
    split
    · rfl
    · rename_i h
      rw [Array.getElem?_eq_none (by omega : c'.size ≤ k), Array.getElem?_replicate]
      split <;> rfl
  rw [enterM, ← ea0] at hT
  obtain ⟨a1, d1, s1, k1, W1⟩ := head_chunk (Sb := Sb) (B := w'.heap.size) (cs := bs) (w := w') hs0 ((hget 0 (by decide)).trans h0) ((hget 1 (by decide)).trans h1)
  obtain ⟨N1, gs1, sl1, t1, q1, e1, r1, -, T1⟩ := beside_walk W1 (Nat.le_refl _) (sl := sl) w'.drawn hT
  have hbox : ∀ b, b < w'.heap.size → (World.at (w'.alloc (.cells #[.slice (some pb') m cb] 24)) e1).heap[b]? = w'.heap[b]? := fun b hb => Below.heap_alloc _ _ _ hb
  have hsz1 : (World.at (w'.alloc (.cells #[.slice (some pb') m cb] 24)) e1).heap.size = w'.heap.size + 1 := by show (w'.alloc _).heap.size = _; simp
  obtain ⟨wl, hwl⟩ : ∃ wl, wl = w.alloc (.cells #[.slice (some pb) m cb] 24) := ⟨_, rfl⟩
  obtain ⟨R1, hR1e⟩ : ∃ R1 : Ren, R1 = fun b b' => R b b' ∨ (b = w.heap.size ∧ b' = w'.heap.size) := ⟨_, rfl⟩
  have hR1 : Sim.Le R R1 := fun b b' x => by rw [hR1e]; exact .inl x
  have hR1b : R1 w.heap.size w'.heap.size := by rw [hR1e]; exact .inr ⟨rfl, rfl⟩
  have hR1s : ∀ b b', R1 b b' → ¬ Sb b' := by
    intro b b' x
    rw [hR1e] at x
    rcases x with x | ⟨-, rfl⟩
    · exact hsafe b b' x
    · intro h; have := hold _ h; omega
  have hN1 : Near (okS sh) tabs (fzB Z) R1 wl (World.at (w'.alloc (.cells #[.slice (some pb') m cb] 24)) e1) := by
    have hp := WRel.push (ok := (okS sh)) (T := tabs) (Fz := fzB Z) (R := R) (w := on w w'.tape w'.drawn) (w' := w') hN (o := .cells #[.slice (some pb) m cb] 24) (o' := .cells #[.slice (some pb') m cb] 24) (.cells _ _ ⟨rfl, fun i v v' hi hi' => by
      match i, hi, hi' with
      | 0, hi, hi' => simp at hi hi'; subst hi; subst hi'; exact hvb⟩)
    have h3 := hp.2.2.1
    rw [hwl, hR1e]
    exact Near.draw (show Near (okS sh) tabs (fzB Z) (fun b b' => R b b' ∨ b = w.heap.size ∧ b' = w'.heap.size) (w.alloc (.cells #[.slice (some pb) m cb] 24)) (w'.alloc (.cells #[.slice (some pb') m cb] 24)) from h3) w'.tape e1
  have hnew1 : (World.at (w'.alloc (.cells #[.slice (some pb') m cb] 24)) e1).heap[w'.heap.size]? = some (.cells #[.slice (some pb') m cb] 24 (0, 0)) := heap_alloc_new w' _
  have hrest1 : (World.at (w'.alloc (.cells #[.slice (some pb') m cb] 24)) e1).os = w'.os ∧ (World.at (w'.alloc (.cells #[.slice (some pb') m cb] 24)) e1).output = w'.output ∧ (World.at (w'.alloc (.cells #[.slice (some pb') m cb] 24)) e1).tape = w'.tape := ⟨rfl, rfl, rfl⟩
  generalize World.at (w'.alloc (.cells #[.slice (some pb') m cb] 24)) e1 = x1 at *
  have hvl := hv.mono hR1
  have hsl : w.heap.size ≤ wl.heap.size := by rw [hwl]; simp
  obtain ⟨N2, gs2, sl2, t2, q2, Sb2, R2, w2, x2, v2, v2', r2, T2, hN2, hv2, ⟨Bs, Bn, hv2e, hBs, hBn, hcs, hcn, hold2⟩, hk2, hsafe2, hlt2, hkeep2⟩ := call_still (f := 84) (by kernel_rfl) (by kernel_rfl) (by kernel_rfl) (sl := sl1) (args := #[.slice pa l ca, .int .i64 4]) (args' := #[.slice pa' l ca, .int .i64 4]) ⟨rfl, fun i v v' hi hi' => by
      match i, hi, hi' with
      | 0, hi, hi' => simp at hi hi'; subst hi; subst hi'; exact hvl
      | 1, hi, hi' => simp at hi hi'; subst hi; subst hi'; exact .int _ _⟩ hN1
    (Q := fun v w1 => ∃ Bs Bn, v = .func (.func 105) #[] #[.pointer (some ⟨Bs, 0, none⟩), .pointer (some ⟨Bn, 0, none⟩)] ∧ Bs < w1.heap.size ∧ Bn < w1.heap.size ∧ w1.cell? ⟨Bs, 0, none⟩ = some (.slice pa l ca) ∧ w1.cell? ⟨Bn, 0, none⟩ = some (.int .i64 4) ∧ ∀ k, k < wl.heap.size → w1.heap[k]? = wl.heap[k]?)
    (fun v w1 t d h => h) (fun v w1 h => by obtain ⟨_, _, _, _, _, _, _, h⟩ := h; exact h)
    (fun t d => (Go.Proofs.Ytgkakgibgfehaaa.R.chunk_as pa l ca (on wl t d)).mono fun e w1 h => by
      obtain ⟨Bs, Bn, he, g1, g2, g3, g4, g5⟩ := h
      exact ⟨_, he, Bs, Bn, rfl, g1, g2, g3, g4, g5.block⟩) (team_up T1 (by omega)) hR1s (fun b hb => by have := hold b hb; omega)
  subst hv2e
  have W3 := head_coll (Sb := Sb2) (B := x2.heap.size) (cs := bs) (w := x2) (v := v2') s1
  obtain ⟨N3, gs3, sl3, t3, q3, e3, r3, -, T3⟩ := beside_walk W3 (Nat.le_refl _) (sl := sl2) x2.drawn T2
  obtain ⟨b, off, hpb⟩ : ∃ b off, 0 < l → pa = some ⟨b, off, none⟩ := by
    by_cases h : 0 < l
    · obtain ⟨b, off, e⟩ := hpa h
      exact ⟨b, off, fun _ => e⟩
    · exact ⟨0, 0, fun h' => absurd h' h⟩
  obtain ⟨N4, gs4, sl4, t4, q4, Sb4, R4, w4, x4, v4, v4', r4, T4, hN4, hv4, ⟨hrow, hold4⟩, hk4, hsafe4, hlt4, hkeep4⟩ := call_still (f := 83) (by kernel_rfl) (by kernel_rfl) (by kernel_rfl) (sl := sl3) (w := w2) (w' := x2.at e3)
    (args := #[.func (.func 105) #[] #[.pointer (some ⟨Bs, 0, none⟩), .pointer (some ⟨Bn, 0, none⟩)]]) (args' := #[v2']) ⟨rfl, fun i v v' hi hi' => by
      match i, hi, hi' with
      | 0, hi, hi' => simp at hi hi'; subst hi; subst hi'; exact hv2⟩ (hN2.draw x2.tape e3)
    (Q := fun v w1 => w1.ownsRow w2.heap.size 23 1 v (partsOf l) (upto (fun j => chunkV b off l j) (partsOf l)) ∧ ∀ k, k < w2.heap.size → w1.heap[k]? = w2.heap[k]?)
    (fun v w1 t d h => h) (fun v w1 h => h.2)
    (fun t d => (Go.Proofs.Ytgkakgibgfehaaa.R.collectParts_as Bs Bn pa b off l ca hpb hl hca (on w2 t d) hBs hBn hcs hcn).mono fun e w1 h => by
      obtain ⟨v, he, g1, g2⟩ := h
      exact ⟨_, he, g1, g2.block⟩) T3 hsafe2 hlt2
  have hn4 : partsOf l ≤ 1048600 := by unfold partsOf; omega
  obtain ⟨pv4, cp, hvs, hP⟩ : ∃ pv cp, v4 = .slice pv (partsOf l) cp ∧ ∀ j, j < partsOf l → ∃ g, pv = some ⟨g, 0, none⟩ ∧ w4.cell? ⟨g, j, none⟩ = some (chunkV b off l j) := by
    obtain ⟨-, ⟨h1, h2⟩ | ⟨g, cap, cur, h1, h2, h3, h4, h5, h6, h7⟩⟩ := hrow
    · exact ⟨none, 0, by rw [h1, h2], fun j hj => by omega⟩
    · refine ⟨_, _, h1, fun j hj => ⟨g, rfl, ?_⟩⟩
      have : cur[j]? = some (chunkV b off l j) := by
        have e := congrArg (fun x => x[j]?) h7
        simp only [Nat.mul_one] at e
        rw [List.getElem?_take_of_lt hj] at e
        simpa [upto, hj] using e
      simp [World.cell?, h3, this]
  subst hvs
  obtain ⟨pv', hve, hpv⟩ : ∃ pv', v4' = .slice pv' (partsOf l) cp ∧ ∀ a, pv4 = some a → ∃ a', pv' = some a' ∧ ARel (okS sh) R4 a a' := by
    cases hv4 with
    | nilSlice => exact ⟨none, rfl, fun a h => by cases h⟩
    | slice _ _ h => exact ⟨_, rfl, fun a e => by cases e; exact ⟨_, rfl, h⟩⟩
  subst hve
  obtain ⟨a5, d5, s5, g3, g6, g7, g16, g17, g18, W5⟩ := head_loop (Sb := Sb4) (B := x4.heap.size + 2) (cs := bs) (w := x4) (a := a1.put (some 11) v2') (pv := pv') (n := partsOf l) (cp := cp) (p3 := ptr w'.heap.size) (by
    show a1.defers = []
    rw [d1, ea0]) (by rw [put_size]; exact s1) (by rw [eval_put_ne (by decide)]; exact k1) hn4 hlt4 rfl
  obtain ⟨N5, gs5, sl5, t5, q5, e5, r5, -, T5⟩ := beside_walk W5 (Nat.le_add_right _ 2) (sl := sl4) x4.drawn T4
  have hsz2 : x1.heap.size ≤ x2.heap.size := hk2.size
  have hsz4 : x2.heap.size ≤ x4.heap.size := hk4.size
  have hkeep : ∀ b, b < x1.heap.size → x4.heap[b]? = x1.heap[b]? := fun b hb => (hkeep4 b (by show b < x2.heap.size; omega)).trans (hkeep2 b hb)
  have hle : ∀ b b', R b b' → R4 b b' := fun b b' x => hk4.le _ _ (hk2.le _ _ (hR1 _ _ x))
  refine ⟨N1 + (N2 + (N3 + (N4 + N5))), gs5, sl5, t5, q5, e5, Sb4, a5, x4, pv', cp, ?_, T5, ⟨d5, s5, g3, g6, g7, g16, g17, g18⟩, by omega, fun b hb => (hkeep b (by omega)).trans (hbox b hb), (hkeep _ (by omega)).trans hnew1, ?_, ?_, ?_, fun b b' x => hsafe4 b b' (hle b b' x), hsafe4 _ _ (hk4.le _ _ (hk2.le _ _ hR1b)), hlt4, fun i hi => ?_⟩
  · exact (Sim.runNT_add N1 _ _ _ r1).trans ((Sim.runNT_add N2 _ _ _ r2).trans ((Sim.runNT_add N3 _ _ _ r3).trans ((Sim.runNT_add N4 _ _ _ r4).trans r5)))
  · exact hk4.os.trans (hk2.os.trans hrest1.1)
  · exact hk4.output.trans (hk2.output.trans hrest1.2.1)
  · exact hk4.tape.trans (hk2.tape.trans hrest1.2.2)
  · obtain ⟨g, hge, hgc⟩ := hP i hi
    obtain ⟨ad, hpe, ha⟩ := hpv _ hge
    have hl0 : 0 < l := by unfold partsOf at hi; omega
    have hpe2 := hpb hl0
    subst hpe2
    obtain ⟨ad', hpe', ha'⟩ : ∃ ad', pa' = some ad' ∧ ARel (okS sh) R ⟨b, off, none⟩ ad' := by
      cases hv with
      | slice _ _ h => exact ⟨_, rfl, h⟩
    have hgc' : w4.cell? ((⟨g, 0, none⟩ : Addr).add i) = some (chunkV b off l i) := by rw [Md.add_mk, Nat.zero_add]; exact hgc
    obtain ⟨v', hv', hr'⟩ := near_cells hN4 (ha.add i) hgc'
    refine ⟨ad, ad', hpe, hpe', hN4.below ha.1, hsafe4 _ _ ha.1, ?_⟩
    rw [hv']
    have hx : ARel (okS sh) R4 ⟨b, off + 8 * i, none⟩ (ad'.add (8 * i)) := by
      have := (ha'.mono hle).add (8 * i)
      rwa [Md.add_mk] at this
    cases hr' with
    | slice _ _ h => rw [h.det hN4.one hx]; rfl
end
end Go.Proofs.Ytgkakgibgfehaaa.Ph
