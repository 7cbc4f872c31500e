/-
  countsOfParts, GOROUTINE 0's LOOP: a round of it, from its head to the go statement, beside the workers. Conditions: what the boxes and the parts hold ('MF'); the contract of partCounts for each part.
  countsOfParts, GOROUTINE 0's LOOP, II: all its rounds, then Wait. Conditions: what the boxes and the parts hold ('MF'); the contract of partCounts for each part.
  countsOfParts, GOROUTINE 0's LOOP, III: the group's Add(1), the go statement, the next round; behind the last one Wait. Conditions: what the boxes and the parts hold ('MF'); the contract of partCounts for each part ('Begin'); fewer than 2^31 parts.
  countsOfParts, GOROUTINE 0's LOOP, IV: all its rounds; behind the last one Wait. Conditions: as before; fewer than 2^31 parts.
  countsOfParts: FROM THE HEAD OF ITS LOOP TO BEHIND Wait, beside goroutines that only leave, on every tape ('phase_run'). Conditions: the group and the row of results are fresh; what the boxes and the parts hold; the contract of partCounts for each part; fewer than 2^31 parts.
-/
import Derived.Test.YtgkakgibgfehaaaSh18
import Derived.Test.YtgkakgibgfehaaaPhAd
import Derived.Test.YtgkakgibgfehaaaPhWt
import Derived.KernelRfl
namespace Go.Proofs.Ytgkakgibgfehaaa.Ph
open Go.Conc Go.ConcN Go.RowKit Go.Conc.Lib Go.ConcR.Gen Go.ConcN.Gen Go.Proofs.Ytgkakgibgfehaaa.Sim
open Go.ConcR (KK wgBlock WgAt stA smA rd wr mk Payload DC0)

def fstC : Code → Code | .seq a _ => a | c => c
def sndC : Code → Code | .seq _ b => b | c => c
def inC : Code → Code | .block _ c => c | .loop c => c | c => c
def opsC : Code → Array Oper | .region _ o _ => o | _ => #[]
def bM : Frame := base 52
noncomputable def bodyM : Code := Try.f52.body.getD .skip
noncomputable def codeM : Code := sndC (sndC (sndC (sndC bodyM)))
noncomputable def LM : Code := inC (inC (sndC (fstC codeM)))
noncomputable def restM : Code := sndC codeM
noncomputable def ops5 : Array Oper := opsC (fstC LM)
noncomputable def ops6 : Array Oper := opsC (fstC (inC (fstC (sndC (sndC LM)))))
noncomputable def ops7 : Array Oper := opsC (fstC (sndC (inC (fstC (sndC (sndC LM))))))
noncomputable def ops8 : Array Oper := opsC (sndC (sndC (inC (fstC (sndC (sndC LM))))))
noncomputable def ops9 : Array Oper := opsC (sndC (sndC (sndC LM)))
theorem LM_eq : LM = .seq (.region 5 ops5 false) (.seq (.cond (.tmp 19) .skip (.exit 0)) (.seq (.block 1 (.seq (.region 6 ops6 false) (.seq (.region 7 ops7 false) (.region 8 ops8 false)))) (.region 9 ops9 false))) := rfl
theorem loudM : (PP.funcs[bM.fn]?).any (·.norace) = false := by kernel_rfl
/-- What is behind the round. -/
noncomputable abbrev behindM : List Item := [.inLoop LM, .inBlock 0, .code restM]
noncomputable abbrev headM (a : Act) (cs : List Frame) : Goroutine := G (bM.at a (.code LM :: behindM)) cs
/-- Behind the go statement. -/
noncomputable abbrev wentM (a : Act) (cs : List Frame) : Goroutine := G (bM.at a (.inRegion ops8 [] :: .inBlock 1 :: .code (.region 9 ops9 false) :: behindM)) cs

theorem eval_put_ne {a : Act} {d k : Nat} {v : Value} (h : d ≠ k) : (a.put (some d) v).eval (.tmp k) = a.eval (.tmp k) := by
  show (a.tmps.setIfInBounds d v).getD k undef = a.tmps.getD k undef
  rw [Array.getD_eq_getD_getElem?, Array.getD_eq_getD_getElem?, Array.getElem?_setIfInBounds_ne h]
theorem eval_put_eq {a : Act} {d : Nat} {v : Value} (h : d < a.tmps.size) : (a.put (some d) v).eval (.tmp d) = v := by
  show (a.tmps.setIfInBounds d v).getD d undef = v
  rw [getD_put _ _ _ _ h, if_pos rfl]

/-- What goroutine 0's slots hold while it starts workers. -/
structure MA (Wg bl ba n pc : Nat) (pa : Option Addr) (i : Nat) (a : Act) : Prop where
  defers : a.defers = []
  size : 28 ≤ a.tmps.size
  s3 : a.eval (.tmp 3) = ptr bl
  s6 : a.eval (.tmp 6) = ptr ba
  s7 : a.eval (.tmp 7) = ptr Wg
  s16 : a.eval (.tmp 16) = .slice pa n pc
  s17 : a.eval (.tmp 17) = .int .i64 n
  s18 : a.eval (.tmp 18) = .int .i64 i
theorem MA.put {Wg bl ba n pc i : Nat} {pa : Option Addr} {a : Act} (h : MA Wg bl ba n pc pa i a) {d : Nat} (v : Value) (hd : d ≠ 3 ∧ d ≠ 6 ∧ d ≠ 7 ∧ d ≠ 16 ∧ d ≠ 17 ∧ d ≠ 18) : MA Wg bl ba n pc pa i (a.put (some d) v) :=
  ⟨h.defers, by show 28 ≤ (a.tmps.setIfInBounds d v).size; simpa using h.size, (eval_put_ne hd.1).trans h.s3, (eval_put_ne hd.2.1).trans h.s6, (eval_put_ne hd.2.2.1).trans h.s7, (eval_put_ne hd.2.2.2.1).trans h.s16, (eval_put_ne hd.2.2.2.2.1).trans h.s17, (eval_put_ne hd.2.2.2.2.2).trans h.s18⟩

/-- What goroutine 0 knows of the world. -/
structure MF (Wg C bl ba n : Nat) (pa : Option Addr) (vps : Nat → Value) (vl : Value) (Base : Nat → Prop) (W0 : World) (X : Kn) (w : World) : Prop where
  xl : X.fz bl
  xa : X.fz ba
  parts : ∀ i, i < n → ∃ ad, pa = some ad ∧ X.fz ad.block ∧ w.cell? (ad.add i) = some (vps i)
  left : w.cell? ⟨bl, 0, none⟩ = some vl
  all : w.cell? ⟨ba, 0, none⟩ = some (.slice (some ⟨C, 0, none⟩) n n)
  base : ∀ b, Base b → X.fz b ∧ w.heap[b]? = W0.heap[b]?
  nC : ¬ X.on C
  nW : ¬ X.on Wg
  lC : C < w.heap.size
  lW : Wg < w.heap.size
  lX : ∀ b, X.on b → b < w.heap.size
theorem cell_of {w w₁ : World} {a : Addr} (h : w₁.heap[a.block]? = w.heap[a.block]?) : w₁.cell? a = w.cell? a := by
  unfold World.cell?
  rw [h]
theorem add_block' (a : Addr) (n : Nat) : (a.add n).block = a.block := by unfold Addr.add; split <;> rfl
section
variable {Wg C bl ba n : Nat} {pa : Option Addr} {vps : Nat → Value} {vl : Value} {Base : Nat → Prop} {W0 : World} {X : Kn} {w w₁ : World}
theorem MF.stands (h : MF Wg C bl ba n pa vps vl Base W0 X w) (hk : ∀ b, X.fz b → w₁.heap[b]? = w.heap[b]?) (hs : w.heap.size ≤ w₁.heap.size) {X' : Kn} (hf : ∀ b, X.fz b → X'.fz b) (hC : ¬ X'.on C) (hW : ¬ X'.on Wg) (hX : ∀ b, X'.on b → b < w₁.heap.size) : MF Wg C bl ba n pa vps vl Base W0 X' w₁ :=
  ⟨hf _ h.xl, hf _ h.xa, fun i hi => let ⟨ad, h1, h2, h3⟩ := h.parts i hi; ⟨ad, h1, hf _ h2, (cell_of (by rw [add_block']; exact hk _ h2)).trans h3⟩, (cell_of (hk _ h.xl)).trans h.left, (cell_of (hk _ h.xa)).trans h.all,
    fun b hb => ⟨hf _ (h.base b hb).1, (hk _ (h.base b hb).1).trans (h.base b hb).2⟩, hC, hW, Nat.lt_of_lt_of_le h.lC hs, Nat.lt_of_lt_of_le h.lW hs, hX⟩
theorem MF.rely (h : MF Wg C bl ba n pa vps vl Base W0 X w) (r : RMn tyW Wg X w w₁) : MF Wg C bl ba n pa vps vl Base W0 X w₁ := h.stands (fun b hb => r.keep b (.inl hb)) r.size (fun _ x => x) h.nC h.nW (fun b hb => Nat.lt_of_lt_of_le (h.lX b hb) r.size)
/-- A box of goroutine 0's own. -/
structure Box (X : Kn) (b : Nat) (v : Value) (w : World) : Prop where
  mu : X.mu b
  cell : w.cell? ⟨b, 0, none⟩ = some v
  thaw : w.frozen? ⟨b, 0, none⟩ = false
theorem Box.rely {b : Nat} {v : Value} (h : Box X b v w) (r : RMn tyW Wg X w w₁) : Box X b v w₁ := by
  have e := r.keep b (.inr h.mu)
  exact ⟨h.mu, (cell_of e).trans h.cell, by have := h.thaw; unfold World.frozen? at this ⊢; rw [e]; exact this⟩
/-- An idle step. -/
theorem idleM {K : World → Prop} (hR : ∀ {w w₁ : World}, K w → RMn tyW Wg X w w₁ → K w₁) {S : Goroutine → World → Prop} {m : Nat} {g g' : Goroutine} (hF : K w) (hrun : g.status = .running) (h : ∀ w, K w → stepG PP true g w = .go g' w #[]) (hn : ∀ w, K w → Goes PP true (RMn tyW Wg X) DC0 S m g' w) :
    Goes PP true (RMn tyW Wg X) DC0 S (m + 1) g w := by
  refine Goes.step hrun fun w₁ h₁ => ?_
  have hF1 := hR hF h₁
  rw [h w₁ hF1]
  exact ⟨⟨rfl, rfl⟩, hn w₁ hF1⟩
/-- A box is made. -/
def Kn.plus (X : Kn) (b : Nat) : Kn := ⟨X.fz, fun x => X.mu x ∨ x = b⟩
theorem MF.alloc (h : MF Wg C bl ba n pa vps vl Base W0 X w) (v : Value) (t : TypeId) : MF Wg C bl ba n pa vps vl Base W0 (X.plus w.heap.size) (w.alloc (.cells #[v] t)) := by
  have old : ∀ b, b < w.heap.size → (w.alloc (.cells #[v] t)).heap[b]? = w.heap[b]? := fun b hb => Below.heap_alloc _ _ _ hb
  have hsz : (w.alloc (.cells #[v] t)).heap.size = w.heap.size + 1 := by simp
  have hC := h.lC
  have hW := h.lW
  refine h.stands (fun b hb => old b (h.lX b (.inl hb))) (by omega) (fun _ x => x) ?_ ?_ ?_
  · rintro (x | x | x)
    · exact h.nC (.inl x)
    · exact h.nC (.inr x)
    · omega
  · rintro (x | x | x)
    · exact h.nW (.inl x)
    · exact h.nW (.inr x)
    · omega
  · rintro b (x | x | x)
    · have := h.lX b (.inl x); omega
    · have := h.lX b (.inr x); omega
    · omega
theorem Box.alloc {b : Nat} {u v : Value} {t : TypeId} (h : Box X b u w) (hb : b < w.heap.size) : Box (X.plus w.heap.size) b u (w.alloc (.cells #[v] t)) := by
  have e : (w.alloc (.cells #[v] t)).heap[b]? = w.heap[b]? := Below.heap_alloc _ _ _ hb
  exact ⟨.inl h.mu, (cell_of e).trans h.cell, by have := h.thaw; unfold World.frozen? at this ⊢; rw [e]; exact this⟩
theorem Box.made (X : Kn) (w : World) (v : Value) (t : TypeId) : Box (X.plus w.heap.size) w.heap.size v (w.alloc (.cells #[v] t)) := by
  have e := heap_alloc_new w (.cells #[v] t)
  exact ⟨.inr rfl, by unfold World.cell?; rw [e]; rfl, by unfold World.frozen?; rw [e]; rfl⟩
theorem memOk_alloc (X : Kn) (w : World) (o : Obj) : MemOk Wg C X (X.plus w.heap.size) w (w.alloc o) #[] :=
  ⟨by simp, fun b hb _ => Below.heap_alloc _ _ _ hb, rfl, rfl, rfl, fun _ x => x, fun b hb => hb.imp id fun e => ⟨by omega, by simp; omega⟩, by simp⟩
theorem memOk_load {a : Addr} (h : X.on a.block) : MemOk Wg C X X w w #[⟨.cell a, false, false⟩] :=
  ⟨Nat.le_refl _, fun _ _ _ => rfl, rfl, rfl, rfl, fun _ x => x, fun _ x => .inl x, fun e he => ⟨a, false, by simpa using he, h, by simp⟩⟩
theorem memOk_store {b : Nat} {v : Value} (h : X.mu b) : MemOk Wg C X X w (w.setCell ⟨b, 0, none⟩ v) #[⟨.cell ⟨b, 0, none⟩, true, false⟩] := by
  have hA : Aside b w (w.setCell ⟨b, 0, none⟩ v) := aside_setCell w ⟨b, 0, none⟩ v
  exact ⟨by rw [hA.size]; exact Nat.le_refl _, fun b' _ hm => hA.block b' fun e => hm (e ▸ h), hA.os, hA.output, hA.tape, fun _ x => x, fun _ x => .inl x, fun e he => ⟨_, true, by simpa using he, .inr h, fun _ => h⟩⟩
theorem MF.store (h : MF Wg C bl ba n pa vps vl Base W0 X w) {b : Nat} (v : Value) (hd : ¬ X.fz b) : MF Wg C bl ba n pa vps vl Base W0 X (w.setCell ⟨b, 0, none⟩ v) := by
  have hA : Aside b w (w.setCell ⟨b, 0, none⟩ v) := aside_setCell w ⟨b, 0, none⟩ v
  exact h.stands (fun x hx => hA.block x fun e => hd (e ▸ hx)) (by rw [hA.size]; exact Nat.le_refl _) (fun _ x => x) h.nC h.nW (fun x hx => by rw [hA.size]; exact h.lX x hx)
theorem Box.other {b b' : Nat} {u v : Value} (h : Box X b u w) (hne : b ≠ b') : Box X b u (w.setCell ⟨b', 0, none⟩ v) := by
  have hA : Aside b' w (w.setCell ⟨b', 0, none⟩ v) := aside_setCell w ⟨b', 0, none⟩ v
  have e := hA.block b hne
  exact ⟨h.mu, (cell_of e).trans h.cell, by have := h.thaw; unfold World.frozen? at this ⊢; rw [e]; exact this⟩
theorem MF.group (h : MF Wg C bl ba n pa vps vl Base W0 X w) {ad : Addr} (v : Value) (ha : ad.block = Wg) : MF Wg C bl ba n pa vps vl Base W0 X (w.setCell ad v) := by
  have hA := aside_setCell w ad v
  exact h.stands (fun x hx => hA.block x fun e => h.nW (.inl (by rw [← ha, ← e]; exact hx))) (by rw [hA.size]; exact Nat.le_refl _) (fun _ x => x) h.nC h.nW (fun x hx => by rw [hA.size]; exact h.lX x hx)
theorem Box.group {b : Nat} {u : Value} (h : Box X b u w) (hW : ¬ X.on Wg) {ad : Addr} (v : Value) (ha : ad.block = Wg) : Box X b u (w.setCell ad v) := by
  have hA := aside_setCell w ad v
  have e := hA.block b fun e => hW (.inr (by rw [← ha, ← e]; exact h.mu))
  exact ⟨h.mu, (cell_of e).trans h.cell, by have := h.thaw; unfold World.frozen? at this ⊢; rw [e]; exact this⟩
theorem MF.ice (h : MF Wg C bl ba n pa vps vl Base W0 X w) : MF Wg C bl ba n pa vps vl Base W0 X.ice w :=
  h.stands (fun _ _ => rfl) (Nat.le_refl _) (fun _ x => .inl x) (fun x => h.nC (x.elim id False.elim)) (fun x => h.nW (x.elim id False.elim)) fun b x => h.lX b (x.elim id False.elim)
theorem Box.filled {b : Nat} {u : Value} (h : Box X b u w) (v : Value) : Box X b v (w.setCell ⟨b, 0, none⟩ v) := by
  have hc := h.cell
  unfold World.cell? at hc
  cases hx : w.heap[b]? with
  | none => rw [hx] at hc; simp at hc
  | some o =>
    rw [hx] at hc
    cases o with
    | cells c e fr =>
      simp only [Option.isSome_none, Bool.false_eq_true, if_false] at hc
      obtain ⟨hlt, -⟩ := Array.getElem?_eq_some_iff.1 hc
      have hb : (w.setCell ⟨b, 0, none⟩ v).heap[b]? = some (.cells (c.setIfInBounds 0 v) e fr) := by simp [World.setCell, Array.getElem?_modify, hx]
      have ht := h.thaw
      unfold World.frozen? at ht
      rw [hx] at ht
      exact ⟨h.mu, by simp [World.cell?, hb, hlt], by simp only [World.frozen?, hb]; exact ht⟩
    | _ => simp at hc
end
end Go.Proofs.Ytgkakgibgfehaaa.Ph

namespace Go.Proofs.Ytgkakgibgfehaaa.Ph
open Go.Conc Go.ConcN Go.RowKit Go.Conc.Lib Go.ConcR.Gen Go.ConcN.Gen Go.Proofs.Ytgkakgibgfehaaa.Sim
open Go.ConcR (KK wgBlock WgAt stA smA rd wr mk Payload DC0)

noncomputable abbrev oAt (ops : Array Oper) (k : Nat) : Oper := (ops[k]?).getD { dst := none, op := .move (.tmp 0), type := 0, pos := "", after := #[], guard := none }
theorem partsU : PP.underlying 96 = some (.slice (PP.elem 96)) := by kernel_rfl
theorem partsS : ∀ w, (Go.sizeOf (PP.elem 96)).run PP w = .ok 1 w := by
  have : PP.elem 96 = 23 := by kernel_rfl
  rw [this]
  exact Try.sizeOf23
theorem zInt : ∀ w, (zeroValue 3).run PP w = .ok (.int .i64 0) w := Try.zeroValue3
theorem zPiles : ∀ w, (zeroValue 23).run PP w = .ok (.slice none 0 0) w := Try.zeroValue23

section
variable {FL : Array Func} {Q : Nat → Value → World → Prop} {PV : Nat → Value → Nat → Obj → Prop} {Wg C bl ba n pc i : Nat} {pa : Option Addr} {vps : Nat → Value} {vl : Value} {Base : Nat → Prop} {W0 : World} {X : Kn} {w : World} {cs : List Frame} {a : Act}

/-- From the head of a round to the first step of memory. -/
theorem round_head {S : Goroutine → World → Prop} {m : Nat} (hi : i < n) (hA : MA Wg bl ba n pc pa i a) (hF : (fun X w => MF Wg C bl ba n pa vps vl Base W0 X w ∧ WgLive tyW Wg w) X w)
    (h : ∀ w (a' : Act) ad, (fun X w => MF Wg C bl ba n pa vps vl Base W0 X w ∧ WgLive tyW Wg w) X w → MA Wg bl ba n pc pa i a' → a'.eval (.tmp 20) = .int .i64 i → pa = some ad → a'.eval (.tmp 21) = .pointer (some (ad.add i)) →
      Goes PP true (RMn tyW Wg X) DC0 S m (G (bM.at a' (.inRegion ops6 [2, 3, 4, 5, 6] :: .code (.seq (.region 7 ops7 false) (.region 8 ops8 false)) :: .inBlock 1 :: .code (.region 9 ops9 false) :: behindM)) cs) w) :
    Goes PP true (RMn tyW Wg X) DC0 S (m + 13) (headM a cs) w := by
  have hR : ∀ {w w₁ : World}, (fun X w => MF Wg C bl ba n pa vps vl Base W0 X w ∧ WgLive tyW Wg w) X w → RMn tyW Wg X w w₁ → (fun X w => MF Wg C bl ba n pa vps vl Base W0 X w ∧ WgLive tyW Wg w) X w₁ := fun h r => ⟨h.1.rely r, r.live h.2⟩
  show Goes PP true (RMn tyW Wg X) DC0 S (m + 13) (G (bM.at a (.code LM :: behindM)) cs) w
  rw [LM_eq]
  obtain ⟨ad, hpa, -, -⟩ := hF.1.parts i hi
  subst hpa
  refine idleM hR hF rfl (fun w _ => stepG_seq) fun w hF => ?_
  refine idleM hR hF rfl (fun w _ => stepG_region) fun w hF => ?_
  refine idleM hR hF rfl (fun w _ => lss_step (o := oAt ops5 0) (rest := []) rfl rfl (by decide) rfl hA.s18 hA.s17) fun w hF => ?_
  refine idleM hR hF rfl (fun w _ => stepG_region_end) fun w hF => ?_
  refine idleM hR hF rfl (fun w _ => stepG_seq) fun w hF => ?_
  have hA1 := hA.put (d := 19) (.bool (decide ((i : Int) < (n : Int)))) (by decide)
  have hc : (a.put (some 19) (.bool (decide ((i : Int) < (n : Int))))).eval (.tmp 19) = .bool true := by
    rw [eval_put_eq (by have := hA.size; omega)]
    rw [decide_eq_true (by omega)]
  refine idleM hR hF rfl (fun w _ => stepG_cond (t := true) hc) fun w hF => ?_
  refine idleM hR hF rfl (fun w _ => stepG_skip) fun w hF => ?_
  refine idleM hR hF rfl (fun w _ => stepG_seq) fun w hF => ?_
  refine idleM hR hF rfl (fun w _ => stepG_block) fun w hF => ?_
  refine idleM hR hF rfl (fun w _ => stepG_seq) fun w hF => ?_
  refine idleM hR hF rfl (fun w _ => stepG_region) fun w hF => ?_
  refine idleM hR hF rfl (fun w _ => move_step (o := oAt ops6 0) (rest := [1, 2, 3, 4, 5, 6]) rfl rfl (by decide) rfl hA1.s18) fun w hF => ?_
  have hA2 := hA1.put (d := 20) (.int .i64 i) (by decide)
  refine idleM hR hF rfl (fun w _ => step_index (o := oAt ops6 1) (rest := [2, 3, 4, 5, 6]) rfl rfl (by decide) rfl hA2.s16 hA2.s18 partsU partsS (by omega)) fun w hF => ?_
  have hA3 := hA2.put (d := 21) (.pointer (some (ad.add ((i : Int).toNat * 1)))) (by decide)
  refine h w _ ad hF hA3 ?_ rfl ?_
  · exact Eq.trans (eval_put_ne (d := 21) (k := 20) (by decide)) (eval_put_eq (d := 20) (Nat.lt_of_lt_of_le (by decide : 20 < 28) hA1.size))
  · refine Eq.trans (eval_put_eq (d := 21) (Nat.lt_of_lt_of_le (by decide : 21 < 28) hA2.size)) ?_
    simp

/-- A step of memory. -/
theorem memM {K : World → Prop} (hR : ∀ {w w₁ : World}, K w → RMn tyW Wg X w w₁ → K w₁) {S : Kn → Goroutine → World → Prop} {k : Nat} {g : Goroutine} (hF : K w) (hrun : g.status = .running)
    (h : ∀ w, K w → ∃ g' w' es X', stepG PP true g w = .go g' w' es ∧ MemOk Wg C X X' w w' es ∧ ∃ m', TM PP tyW Wg C k m' S X' g' w') :
    Goes PP true (RMn tyW Wg X) DC0 (Mem PP Wg C X fun X g w => ∃ m', TM PP tyW Wg C k m' S X g w) 0 g w :=
  Goes.stop fun w₁ h₁ => ⟨hrun, h w₁ (hR hF h₁)⟩

/-- The rest of the operations of a round's region 6. -/
noncomputable abbrev mid6 : List Item := .code (.seq (.region 7 ops7 false) (.region 8 ops8 false)) :: .inBlock 1 :: .code (.region 9 ops9 false) :: behindM
/-- The four steps that make and fill the boxes, behind the load. -/
theorem round_boxes {S : Kn → Goroutine → World → Prop} {m : Nat} (hvp : ∃ p l c, vps i = .slice p l c) (hA : MA Wg bl ba n pc pa i a) (h20 : a.eval (.tmp 20) = .int .i64 i) (h22 : a.eval (.tmp 22) = vps i) (hF : (fun X w => MF Wg C bl ba n pa vps vl Base W0 X w ∧ WgLive tyW Wg w) X w)
    (h : ∀ X' w (a' : Act) bp bi, (fun X w => MF Wg C bl ba n pa vps vl Base W0 X w ∧ WgLive tyW Wg w) X' w → Box X' bi (.int .i64 i) w → Box X' bp (vps i) w → MA Wg bl ba n pc pa i a' → a'.eval (.tmp 8) = ptr bi → a'.eval (.tmp 9) = ptr bp →
      Goes PP true (RMn tyW Wg X') DC0 (S X') m (G (bM.at a' (.inRegion ops6 [] :: mid6)) cs) w) :
    TM PP tyW Wg C 4 0 S X (G (bM.at a (.inRegion ops6 [3, 4, 5, 6] :: mid6)) cs) w := by
  have hR : ∀ {X : Kn} {w w₁ : World}, (fun X w => MF Wg C bl ba n pa vps vl Base W0 X w ∧ WgLive tyW Wg w) X w → RMn tyW Wg X w w₁ → (fun X w => MF Wg C bl ba n pa vps vl Base W0 X w ∧ WgLive tyW Wg w) X w₁ := fun h r => ⟨h.1.rely r, r.live h.2⟩
  have lv : ∀ {w w' : World}, WgLive tyW Wg w → w'.heap[Wg]? = w.heap[Wg]? → WgLive tyW Wg w' := fun ⟨st, sm, h⟩ e => ⟨st, sm, h.of_block e⟩
  refine memM (fun h r => hR h r) hF rfl fun w hF => ?_
  -- the box of i
  refine ⟨G (bM.at (a.put (some 8) (ptr w.heap.size)) (.inRegion ops6 [4, 5, 6] :: mid6)) cs, w.alloc (.cells #[.int .i64 0] 3), _, X.plus w.heap.size, step_alloc (o := oAt ops6 3) (rest := [4, 5, 6]) rfl rfl (by decide) rfl zInt, memOk_alloc X w _, 0, ?_⟩
  have hA1 := hA.put (d := 8) (ptr w.heap.size) (by decide)
  have e8 : (a.put (some 8) (ptr w.heap.size)).eval (.tmp 8) = ptr w.heap.size := eval_put_eq (Nat.lt_of_lt_of_le (by decide : 8 < 28) hA.size)
  have e20 : (a.put (some 8) (ptr w.heap.size)).eval (.tmp 20) = .int .i64 i := Eq.trans (eval_put_ne (by decide)) h20
  have e22 : (a.put (some 8) (ptr w.heap.size)).eval (.tmp 22) = vps i := Eq.trans (eval_put_ne (by decide)) h22
  have nf : ¬ X.fz w.heap.size := fun x => Nat.lt_irrefl _ (hF.1.lX _ (.inl x))
  have K1 : (fun X w => MF Wg C bl ba n pa vps vl Base W0 X w ∧ WgLive tyW Wg w) (X.plus w.heap.size) (w.alloc (.cells #[.int .i64 0] 3)) := ⟨hF.1.alloc _ _, lv hF.2 (Below.heap_alloc _ _ _ hF.1.lW)⟩
  have B1 := Box.made X w (.int .i64 0) 3
  generalize (a.put (some 8) (ptr w.heap.size)) = a1 at *
  generalize w.heap.size = bi at *
  generalize hX1 : X.plus bi = X1 at *
  have nf1 : ¬ X1.fz bi := by rw [← hX1]; exact nf
  refine memM (K := fun w => (fun X w => MF Wg C bl ba n pa vps vl Base W0 X w ∧ WgLive tyW Wg w) X1 w ∧ Box X1 bi (.int .i64 0) w) (fun h r => ⟨hR h.1 r, h.2.rely r⟩) ⟨K1, B1⟩ rfl fun w hF => ?_
  obtain ⟨hF, hb⟩ := hF
  -- the box of the part
  refine ⟨G (bM.at (a1.put (some 9) (ptr w.heap.size)) (.inRegion ops6 [5, 6] :: mid6)) cs, w.alloc (.cells #[.slice none 0 0] 23), _, X1.plus w.heap.size, step_alloc (o := oAt ops6 4) (rest := [5, 6]) rfl rfl (by decide) rfl zPiles, memOk_alloc X1 w _, 0, ?_⟩
  have hA2 := hA1.put (d := 9) (ptr w.heap.size) (by decide)
  have f9 : (a1.put (some 9) (ptr w.heap.size)).eval (.tmp 9) = ptr w.heap.size := eval_put_eq (Nat.lt_of_lt_of_le (by decide : 9 < 28) hA1.size)
  have f8 : (a1.put (some 9) (ptr w.heap.size)).eval (.tmp 8) = ptr bi := Eq.trans (eval_put_ne (by decide)) e8
  have f20 : (a1.put (some 9) (ptr w.heap.size)).eval (.tmp 20) = .int .i64 i := Eq.trans (eval_put_ne (by decide)) e20
  have f22 : (a1.put (some 9) (ptr w.heap.size)).eval (.tmp 22) = vps i := Eq.trans (eval_put_ne (by decide)) e22
  have hlt : bi < w.heap.size := hF.1.lX bi (.inr hb.mu)
  have K2 : (fun X w => MF Wg C bl ba n pa vps vl Base W0 X w ∧ WgLive tyW Wg w) (X1.plus w.heap.size) (w.alloc (.cells #[.slice none 0 0] 23)) := ⟨hF.1.alloc _ _, lv hF.2 (Below.heap_alloc _ _ _ hF.1.lW)⟩
  have B2 := Box.made X1 w (.slice none 0 0) 23
  have B2' := hb.alloc (v := .slice none 0 0) (t := 23) hlt
  have nf2 : ¬ X1.fz w.heap.size := fun x => Nat.lt_irrefl _ (hF.1.lX _ (.inl x))
  have hne : bi ≠ w.heap.size := by omega
  generalize (a1.put (some 9) (ptr w.heap.size)) = a2 at *
  generalize w.heap.size = bp at *
  generalize hX2 : X1.plus bp = X2 at *
  have nb : ¬ X2.fz bi := by rw [← hX2]; exact nf1
  have np : ¬ X2.fz bp := by rw [← hX2]; exact nf2
  refine memM (K := fun w => (fun X w => MF Wg C bl ba n pa vps vl Base W0 X w ∧ WgLive tyW Wg w) X2 w ∧ Box X2 bi (.int .i64 0) w ∧ Box X2 bp (.slice none 0 0) w) (fun h r => ⟨hR h.1 r, h.2.1.rely r, h.2.2.rely r⟩) ⟨K2, B2', B2⟩ rfl fun w hF => ?_
  obtain ⟨hF, hb, hq⟩ := hF
  have nW : ∀ {b : Nat}, X2.mu b → Wg ≠ b := fun hm e => hF.1.nW (.inr (e ▸ hm))
  -- i is stored
  refine ⟨G (bM.at a2 (.inRegion ops6 [6] :: mid6)) cs, _, _, X2, step_store_int (o := oAt ops6 5) (rest := [6]) rfl rfl (by decide) rfl f8 f20 hb.cell hb.thaw Try.sizeOf3 loudM, memOk_store hb.mu, 0, ?_⟩
  have K3 : (fun X w => MF Wg C bl ba n pa vps vl Base W0 X w ∧ WgLive tyW Wg w) X2 (w.setCell ⟨bi, 0, none⟩ (.int .i64 i)) := ⟨hF.1.store _ nb, lv hF.2 ((aside_setCell w ⟨bi, 0, none⟩ _).block Wg (nW hb.mu))⟩
  have B3 := hb.filled (.int .i64 i)
  have B3' := hq.other (b' := bi) (v := .int .i64 i) (Ne.symm hne)
  refine memM (K := fun w => (fun X w => MF Wg C bl ba n pa vps vl Base W0 X w ∧ WgLive tyW Wg w) X2 w ∧ Box X2 bi (.int .i64 i) w ∧ Box X2 bp (.slice none 0 0) w) (fun h r => ⟨hR h.1 r, h.2.1.rely r, h.2.2.rely r⟩) ⟨K3, B3, B3'⟩ rfl fun w hF => ?_
  obtain ⟨hF, hb, hq⟩ := hF
  obtain ⟨p, l, c, hvp⟩ := hvp
  rw [hvp] at f22
  -- the part is stored
  refine ⟨G (bM.at a2 (.inRegion ops6 [] :: mid6)) cs, _, _, X2, step_store (o := oAt ops6 6) (rest := []) rfl rfl (by decide) rfl f9 f22 hq.cell hq.thaw Try.sizeOf23 loudM, memOk_store hq.mu, m, ?_⟩
  rw [← hvp]
  exact h X2 _ _ bp bi ⟨hF.1.store _ np, lv hF.2 ((aside_setCell w ⟨bp, 0, none⟩ _).block Wg (nW hq.mu))⟩ (hb.other hne) (hq.filled (vps i)) hA2 f8 f9
end
end Go.Proofs.Ytgkakgibgfehaaa.Ph

namespace Go.Proofs.Ytgkakgibgfehaaa.Ph
open Go.Conc Go.ConcN Go.RowKit Go.Conc.Lib Go.ConcR.Gen Go.ConcN.Gen Go.Proofs.Ytgkakgibgfehaaa.Sim
open Go.ConcR (KK wgBlock WgAt stA smA rd wr mk Payload DC0)

section
variable {sh : Nat → Nat} {FL : Array Func} {Q : Nat → Value → World → Prop} {PV : Nat → Value → Nat → Obj → Prop} {Wg C bl ba n pc i bp bi : Nat} {pa : Option Addr} {vps : Nat → Value} {vl : Value} {Base : Nat → Prop} {W0 : World} {X : Kn} {w : World} {cs : List Frame} {a : Act}

/-- The go statement. -/
theorem at_go {L : Kn → Goroutine → World → Prop} (hi : i < n) (hCW : C ≠ Wg) (hBeg : ∀ w, MF Wg C bl ba n pa vps vl Base W0 X.ice w → Begin sh FL Q PV i X.on w (vps i) vl) (hL : ∀ w (a' : Act), (fun X w => MF Wg C bl ba n pa vps vl Base W0 X w ∧ WgLive tyW Wg w) X.ice w → MA Wg bl ba n pc pa i a' → L X.ice (wentM a' cs) w)
    (hA : MA Wg bl ba n pc pa i a) (hF : (fun X w => MF Wg C bl ba n pa vps vl Base W0 X w ∧ WgLive tyW Wg w) X w) (hb : Box X bi (.int .i64 i) w) (hq : Box X bp (vps i) w) :
    AtGo (okW sh) tabs FL fsC tyW Wg C n Q PV L i X (G (bM.at (a.put (some 24) (.func (.func 86) #[] #[ptr Wg, ptr bp, ptr bl, ptr ba, ptr bi])) (.inRegion ops8 [1] :: .inBlock 1 :: .code (.region 9 ops9 false) :: behindM)) cs) w := by
  have e24 : (a.put (some 24) (.func (.func 86) #[] #[ptr Wg, ptr bp, ptr bl, ptr ba, ptr bi])).eval (.tmp 24) = .func (.func 86) #[] #[ptr Wg, ptr bp, ptr bl, ptr ba, ptr bi] := eval_put_eq (Nat.lt_of_lt_of_le (by decide : 24 < 28) hA.size)
  refine ⟨rfl, _, born PP (callW Wg bp bl ba bi), spawn_step (o := oAt ops8 1) (rest := []) rfl rfl (by decide) rfl e24, rfl, fun hp hl => ?_, hL w _ ⟨hF.1.ice, hF.2⟩ (hA.put _ (by decide))⟩
  have hB : Boxes Wg C n i bp bl ba bi X.on (vps i) vl w := ⟨.inr hq.mu, .inl hF.1.xl, .inl hF.1.xa, .inr hb.mu, hq.cell, hF.1.left, hF.1.all, hb.cell, hi, hF.1.nC, hCW⟩
  exact worker_script hB (hBeg w hF.1.ice) (fun _ _ => rfl)

theorem some_getD {o : Option Code} (h : o.isSome = true) : o = some (o.getD .skip) := by
  cases o with
  | none => cases h
  | some x => rfl
set_option maxRecDepth 100000 in
theorem addTmps (x y : Value) : #[x, y] ++ Array.replicate 115 undef = #[x, y, undef, undef, undef, undef, undef, undef, undef, undef, undef, undef, undef, undef, undef, undef, undef, undef, undef, undef, undef, undef, undef, undef, undef, undef, undef, undef, undef, undef, undef, undef, undef, undef, undef, undef, undef, undef, undef, undef, undef, undef, undef, undef, undef, undef, undef, undef, undef, undef, undef, undef, undef, undef, undef, undef, undef, undef, undef, undef, undef, undef, undef, undef, undef, undef, undef, undef, undef, undef, undef, undef, undef, undef, undef, undef, undef, undef, undef, undef, undef, undef, undef, undef, undef, undef, undef, undef, undef, undef, undef, undef, undef, undef, undef, undef, undef, undef, undef, undef, undef, undef, undef, undef, undef, undef, undef, undef, undef, undef, undef, undef, undef, undef, undef, undef, undef] := by kernel_rfl
set_option maxRecDepth 100000 in
theorem waitTmps (x : Value) : #[x] ++ Array.replicate 83 undef = #[x, undef, undef, undef, undef, undef, undef, undef, undef, undef, undef, undef, undef, undef, undef, undef, undef, undef, undef, undef, undef, undef, undef, undef, undef, undef, undef, undef, undef, undef, undef, undef, undef, undef, undef, undef, undef, undef, undef, undef, undef, undef, undef, undef, undef, undef, undef, undef, undef, undef, undef, undef, undef, undef, undef, undef, undef, undef, undef, undef, undef, undef, undef, undef, undef, undef, undef, undef, undef, undef, undef, undef, undef, undef, undef, undef, undef, undef, undef, undef, undef, undef, undef, undef] := by kernel_rfl
theorem addFrame : Frame.enter PP Try.link.add #[ptr Wg, .int .i64 1] .normal = (base Try.link.add).at ⟨#[ptr Wg, .int .i64 1, undef, undef, undef, undef, undef, undef, undef, undef, undef, undef, undef, undef, undef, undef, undef, undef, undef, undef, undef, undef, undef, undef, undef, undef, undef, undef, undef, undef, undef, undef, undef, undef, undef, undef, undef, undef, undef, undef, undef, undef, undef, undef, undef, undef, undef, undef, undef, undef, undef, undef, undef, undef, undef, undef, undef, undef, undef, undef, undef, undef, undef, undef, undef, undef, undef, undef, undef, undef, undef, undef, undef, undef, undef, undef, undef, undef, undef, undef, undef, undef, undef, undef, undef, undef, undef, undef, undef, undef, undef, undef, undef, undef, undef, undef, undef, undef, undef, undef, undef, undef, undef, undef, undef, undef, undef, undef, undef, undef, undef, undef, undef, undef, undef, undef, undef], []⟩ [.code (body_add Try.link)] := by
  rw [enter_at (c := body_add Try.link) #[ptr Wg, .int .i64 1] PP.link.f_add (some_getD (o := (addFn Try.link).body) rfl), ← addTmps]
  rfl
theorem waitFrame : Frame.enter PP Try.link.wait #[ptr Wg] .normal = (base Try.link.wait).at ⟨#[ptr Wg, undef, undef, undef, undef, undef, undef, undef, undef, undef, undef, undef, undef, undef, undef, undef, undef, undef, undef, undef, undef, undef, undef, undef, undef, undef, undef, undef, undef, undef, undef, undef, undef, undef, undef, undef, undef, undef, undef, undef, undef, undef, undef, undef, undef, undef, undef, undef, undef, undef, undef, undef, undef, undef, undef, undef, undef, undef, undef, undef, undef, undef, undef, undef, undef, undef, undef, undef, undef, undef, undef, undef, undef, undef, undef, undef, undef, undef, undef, undef, undef, undef, undef, undef], []⟩ [.code (body_wait Try.link)] := by
  rw [enter_at (c := body_wait Try.link) #[ptr Wg] PP.link.f_wait (some_getD (o := (waitFn Try.link).body) rfl), ← waitTmps]
  rfl

set_option maxRecDepth 100000 in
/-- From the boxes to the go statement. -/
theorem round_add {L : Kn → Goroutine → World → Prop} (hi : i < n) (hCW : C ≠ Wg) (hBeg : ∀ w, MF Wg C bl ba n pa vps vl Base W0 X.ice w → Begin sh FL Q PV i X.on w (vps i) vl) (hL : ∀ w (a' : Act), (fun X w => MF Wg C bl ba n pa vps vl Base W0 X w ∧ WgLive tyW Wg w) X.ice w → MA Wg bl ba n pc pa i a' → L X.ice (wentM a' cs) w)
    (hA : MA Wg bl ba n pc pa i a) (h8 : a.eval (.tmp 8) = ptr bi) (h9 : a.eval (.tmp 9) = ptr bp) (hF : (fun X w => MF Wg C bl ba n pa vps vl Base W0 X w ∧ WgLive tyW Wg w) X w) (hb : Box X bi (.int .i64 i) w) (hq : Box X bp (vps i) w) :
    Goes PP true (RMn tyW Wg X) DC0 (Ad1 PP tyW Wg (RMn tyW Wg X) (AtGo (okW sh) tabs FL fsC tyW Wg C n Q PV L i X)) 304 (G (bM.at a (.inRegion ops6 [] :: mid6)) cs) w := by
  let K : World → Prop := fun w => MF Wg C bl ba n pa vps vl Base W0 X w ∧ Box X bi (.int .i64 i) w ∧ Box X bp (vps i) w
  have hRl : ∀ {w w₁ : World}, K w ∧ WgLive tyW Wg w → RMn tyW Wg X w w₁ → K w₁ ∧ WgLive tyW Wg w₁ := fun h r => ⟨⟨h.1.1.rely r, h.1.2.1.rely r, h.1.2.2.rely r⟩, r.live h.2⟩
  have hSt : ∀ (w : World) (ad : Addr) (v : Value), ad.block = Wg → K w → K (w.setCell ad v) := fun w ad v e h => ⟨h.1.group v e, h.2.1.group h.1.nW v e, h.2.2.group h.1.nW v e⟩
  have hK : K w ∧ WgLive tyW Wg w := ⟨⟨hF.1, hb, hq⟩, hF.2⟩
  clear hF hb hq
  refine idleM hRl hK rfl (fun w _ => stepG_region_end) fun w hK => ?_
  refine idleM hRl hK rfl (fun w _ => stepG_seq) fun w hK => ?_
  refine idleM hRl hK rfl (fun w _ => stepG_region) fun w hK => ?_
  have hargs : (#[Operand.tmp 7, Operand.const (.int .i64 1)].map a.eval) = #[ptr Wg, .int .i64 1] := by
    simp only [List.map_toArray, List.map_cons, List.map_nil, hA.s7]
    rfl
  refine idleM (g' := G ((base Try.link.add).at ⟨#[ptr Wg, .int .i64 1, undef, undef, undef, undef, undef, undef, undef, undef, undef, undef, undef, undef, undef, undef, undef, undef, undef, undef, undef, undef, undef, undef, undef, undef, undef, undef, undef, undef, undef, undef, undef, undef, undef, undef, undef, undef, undef, undef, undef, undef, undef, undef, undef, undef, undef, undef, undef, undef, undef, undef, undef, undef, undef, undef, undef, undef, undef, undef, undef, undef, undef, undef, undef, undef, undef, undef, undef, undef, undef, undef, undef, undef, undef, undef, undef, undef, undef, undef, undef, undef, undef, undef, undef, undef, undef, undef, undef, undef, undef, undef, undef, undef, undef, undef, undef, undef, undef, undef, undef, undef, undef, undef, undef, undef, undef, undef, undef, undef, undef, undef, undef, undef, undef, undef, undef], []⟩ [.code (body_add Try.link)]) (bM.at a (.inRegion ops7 [0] :: .code (.region 8 ops8 false) :: .inBlock 1 :: .code (.region 9 ops9 false) :: behindM) :: cs)) hRl hK rfl (fun w _ => ?_) fun w hK => ?_
  · have hst := step_call (P := PP) (main := true) (b := bM) (a := a) (kk := .code (.region 8 ops8 false) :: .inBlock 1 :: .code (.region 9 ops9 false) :: behindM) (cs := cs) (w := w) (ops := ops7) (i := 0) (rest := []) (o := oAt ops7 0) rfl rfl (by decide) rfl PP.link.f_add (nm_add Try.link) rfl
    rw [hargs] at hst
    rw [show Frame.enter PP 85 #[ptr Wg, .int .i64 1] .normal = _ from addFrame] at hst
    exact hst
  refine add_walk (mT := 3) PP.link hRl hSt (fun w hK => ?_) w hK
  -- behind Add
  refine idleM hRl hK rfl (fun w _ => stepG_region_end) fun w hK => ?_
  refine idleM hRl hK rfl (fun w _ => stepG_region) fun w hK => ?_
  have hA1 := hA.put (d := 23) (.tuple #[]) (by decide)
  have e8 : (a.put (some 23) (.tuple #[])).eval (.tmp 8) = ptr bi := Eq.trans (eval_put_ne (by decide)) h8
  have e9 : (a.put (some 23) (.tuple #[])).eval (.tmp 9) = ptr bp := Eq.trans (eval_put_ne (by decide)) h9
  refine idleM (g' := G (bM.at ((a.put (some 23) (.tuple #[])).put (some 24) (.func (.func 86) #[] #[ptr Wg, ptr bp, ptr bl, ptr ba, ptr bi])) (.inRegion ops8 [1] :: .inBlock 1 :: .code (.region 9 ops9 false) :: behindM)) cs) hRl hK rfl (fun w _ => ?_) fun w hK => ?_
  · have hst := func_step (main := true) (b := bM) (a := a.put (some 23) (.tuple #[])) (kk := .inBlock 1 :: .code (.region 9 ops9 false) :: behindM) (cs := cs) (w := w) (ops := ops8) (i := 0) (rest := [1]) (o := oAt ops8 0) (f := 86) (p := .tmp 7) (q := .tmp 9) (r := .tmp 3) (s := .tmp 6) (u := .tmp 8) rfl rfl (by decide) rfl
    rw [hA1.s7, e9, hA1.s3, hA1.s6, e8] at hst
    exact hst
  exact Goes.stop fun w₁ h₁ => by
    obtain ⟨⟨k1, k2, k3⟩, k4⟩ := hRl hK h₁
    exact at_go hi hCW hBeg hL hA1 ⟨k1, k4⟩ k2 k3
end
end Go.Proofs.Ytgkakgibgfehaaa.Ph

namespace Go.Proofs.Ytgkakgibgfehaaa.Ph
open Go.Conc Go.ConcN Go.RowKit Go.Conc.Lib Go.ConcR.Gen Go.ConcN.Gen Go.Proofs.Ytgkakgibgfehaaa.Sim
open Go.ConcR (KK wgBlock WgAt stA smA rd wr mk Payload DC0)

noncomputable def ops10 : Array Oper := opsC (fstC restM)
noncomputable def rest11 : Code := sndC restM
theorem restM_eq : restM = .seq (.region 10 ops10 false) rest11 := rfl

section
variable (FL : Array Func) (Q : Nat → Value → World → Prop) (PV : Nat → Value → Nat → Obj → Prop) (Wg C bl ba n pc : Nat) (pa : Option Addr) (vps : Nat → Value) (vl : Value) (Base : Nat → Prop) (W0 : World) (cs : List Frame)
def AnchM (X : Kn) (g : Goroutine) (w : World) : Prop :=
  ∃ a, MA Wg bl ba n pc pa n a ∧ Head Try.link (fun w => MF Wg C bl ba n pa vps vl Base W0 X w ∧ WgLive tyW Wg w) Wg (bM.at a (.inRegion ops10 [0] :: [.code rest11])) cs g w
def NextM (X : Kn) (g : Goroutine) (w : World) : Prop :=
  ∃ a, MA Wg bl ba n pc pa n a ∧ g = G (bM.at a (.inRegion ops10 [] :: [.code rest11])) cs ∧ MF Wg C bl ba n pa vps vl Base W0 X w ∧ WgLive tyW Wg w
end

section
variable {sh : Nat → Nat} {FL : Array Func} {Q : Nat → Value → World → Prop} {PV : Nat → Value → Nat → Obj → Prop} {Wg C bl ba n pc i : Nat} {pa : Option Addr} {vps : Nat → Value} {vl : Value} {Base : Nat → Prop} {W0 : World} {X : Kn} {w : World} {cs : List Frame} {a : Act}

theorem rlM {w w₁ : World} (h : (fun X w => MF Wg C bl ba n pa vps vl Base W0 X w ∧ WgLive tyW Wg w) X w) (r : RMn tyW Wg X w w₁) : (fun X w => MF Wg C bl ba n pa vps vl Base W0 X w ∧ WgLive tyW Wg w) X w₁ := ⟨h.1.rely r, r.live h.2⟩

/-- Behind the last round: into Wait. -/
theorem head_end (hA : MA Wg bl ba n pc pa n a) (hF : (fun X w => MF Wg C bl ba n pa vps vl Base W0 X w ∧ WgLive tyW Wg w) X w) : Goes PP true (RMn tyW Wg X) DC0 (Wt1 PP (RMn tyW Wg X) ((AnchM Wg C bl ba n pc pa vps vl Base W0 cs) X)) 110 (headM a cs) w := by
  show Goes PP true (RMn tyW Wg X) DC0 _ 110 (G (bM.at a (.code LM :: behindM)) cs) w
  rw [LM_eq]
  refine idleM rlM hF rfl (fun w _ => stepG_seq) fun w hF => ?_
  refine idleM rlM hF rfl (fun w _ => stepG_region) fun w hF => ?_
  refine idleM rlM hF rfl (fun w _ => lss_step (o := oAt ops5 0) (rest := []) rfl rfl (by decide) rfl hA.s18 hA.s17) fun w hF => ?_
  refine idleM rlM hF rfl (fun w _ => stepG_region_end) fun w hF => ?_
  refine idleM rlM hF rfl (fun w _ => stepG_seq) fun w hF => ?_
  have hA1 := hA.put (d := 19) (.bool (decide ((n : Int) < (n : Int)))) (by decide)
  have hc : (a.put (some 19) (.bool (decide ((n : Int) < (n : Int))))).eval (.tmp 19) = .bool false := by
    rw [eval_put_eq (by have := hA.size; omega)]
    rw [decide_eq_false (by omega)]
  refine idleM rlM hF rfl (fun w _ => stepG_cond (t := false) hc) fun w hF => ?_
  refine idleM (g' := G (bM.at (a.put (some 19) (.bool (decide ((n : Int) < (n : Int))))) [.code restM]) cs) rlM hF rfl (fun w _ => stepG_exit rfl) fun w hF => ?_
  rw [restM_eq]
  refine idleM rlM hF rfl (fun w _ => stepG_seq) fun w hF => ?_
  refine idleM rlM hF rfl (fun w _ => stepG_region) fun w hF => ?_
  generalize a.put (some 19) (.bool (decide ((n : Int) < (n : Int)))) = a1 at hA1 hc
  have hargs : (#[Operand.tmp 7].map a1.eval) = #[ptr Wg] := by
    simp only [List.map_toArray, List.map_cons, List.map_nil, hA1.s7]
  refine idleM (g' := G ((base Try.link.wait).at ⟨#[ptr Wg, undef, undef, undef, undef, undef, undef, undef, undef, undef, undef, undef, undef, undef, undef, undef, undef, undef, undef, undef, undef, undef, undef, undef, undef, undef, undef, undef, undef, undef, undef, undef, undef, undef, undef, undef, undef, undef, undef, undef, undef, undef, undef, undef, undef, undef, undef, undef, undef, undef, undef, undef, undef, undef, undef, undef, undef, undef, undef, undef, undef, undef, undef, undef, undef, undef, undef, undef, undef, undef, undef, undef, undef, undef, undef, undef, undef, undef, undef, undef, undef, undef, undef, undef], []⟩ [.code (body_wait Try.link)]) (bM.at a1 (.inRegion ops10 [0] :: [.code rest11]) :: cs)) rlM hF rfl (fun w _ => ?_) fun w hF => ?_
  · have hst := step_call (P := PP) (main := true) (b := bM) (a := a1) (kk := [.code rest11]) (cs := cs) (w := w) (ops := ops10) (i := 0) (rest := []) (o := oAt ops10 0) rfl rfl (by decide) rfl PP.link.f_wait (nm_wait Try.link) rfl
    rw [hargs] at hst
    rw [show Frame.enter PP 89 #[ptr Wg] .normal = _ from waitFrame] at hst
    exact hst
  refine goes_imp (fun g w h => ?_) (wait_start (F := fun w => MF Wg C bl ba n pa vps vl Base W0 X w) PP.link rlM w hF)
  obtain ⟨h1, g', h2, m, h3⟩ := h
  exact ⟨h1, g', h2, m, goes_imp (fun g w h => ⟨a1, hA1, h⟩) h3⟩

/-- A round of Wait. -/
theorem wait_again (g : Goroutine) (w : World) (h : (AnchM Wg C bl ba n pc pa vps vl Base W0 cs) X g w) : To PP (RMn tyW Wg X) (Wt2 PP tyW Wg (RMn tyW Wg X) ((NextM Wg C bl ba n pc pa vps vl Base W0 cs) X) ((AnchM Wg C bl ba n pc pa vps vl Base W0 cs) X)) g w := by
  obtain ⟨a1, hA1, hH⟩ := h
  have hA2 := hA1.put (d := 26) (.tuple #[]) (by decide)
  obtain ⟨m, hG⟩ := wait_round (Next := (NextM Wg C bl ba n pc pa vps vl Base W0 cs) X) (mT := 0) (F := fun w => MF Wg C bl ba n pa vps vl Base W0 X w) PP.link rlM (fun w ad v e h => h.group v e) (fun w hF => Goes.stop fun w₁ h₁ => ⟨_, hA2, rfl, rlM hF h₁⟩) g w hH
  have up : ∀ {g w}, To PP (RMn tyW Wg X) (Head Try.link (fun w => MF Wg C bl ba n pa vps vl Base W0 X w ∧ WgLive tyW Wg w) Wg (bM.at a1 (.inRegion ops10 [0] :: [.code rest11])) cs) g w → To PP (RMn tyW Wg X) ((AnchM Wg C bl ba n pc pa vps vl Base W0 cs) X) g w := fun ⟨m, h⟩ => ⟨m, goes_imp (fun _ _ x => ⟨a1, hA1, x⟩) h⟩
  refine ⟨m, goes_imp (fun g w h => ?_) hG⟩
  obtain ⟨h1, h2⟩ := h
  refine ⟨h1, fun v hv hw => ?_⟩
  obtain ⟨g', k1, k2, k3⟩ := h2 v hv hw
  refine ⟨g', k1, k2, fun hne => ?_⟩
  obtain ⟨m', k4⟩ := k3 hne
  refine ⟨m', goes_imp (fun g w h => ?_) k4⟩
  obtain ⟨q1, q2⟩ := h
  refine ⟨q1, fun v hv hw => ?_⟩
  obtain ⟨r1, r2⟩ := q2 v hv hw
  exact ⟨r1, fun hne => let ⟨g', s1, s2⟩ := r2 hne; ⟨g', s1, up s2⟩⟩

/-- From the go statement to the head of the next round. -/
theorem went_head {S : Goroutine → World → Prop} {m : Nat} (hn : n < 2147483648) (hi : i < n) (hA : MA Wg bl ba n pc pa i a) (hF : (fun X w => MF Wg C bl ba n pa vps vl Base W0 X w ∧ WgLive tyW Wg w) X w) (h : ∀ w (a' : Act), (fun X w => MF Wg C bl ba n pa vps vl Base W0 X w ∧ WgLive tyW Wg w) X w → MA Wg bl ba n pc pa (i + 1) a' → Goes PP true (RMn tyW Wg X) DC0 S m (headM a' cs) w) :
    Goes PP true (RMn tyW Wg X) DC0 S (m + 7) (wentM a cs) w := by
  refine idleM rlM hF rfl (fun w _ => stepG_region_end) fun w hF => ?_
  refine idleM rlM hF rfl (fun w _ => stepG_inBlock) fun w hF => ?_
  refine idleM rlM hF rfl (fun w _ => stepG_region) fun w hF => ?_
  have e1 : a.eval (.const (.int .i64 1)) = .int .i64 1 := rfl
  refine idleM (g' := G (bM.at (a.put (some 25) (.int .i64 (IntKind.wrap .i64 ((i : Int) + 1)))) (.inRegion ops9 [1] :: behindM)) cs) rlM hF rfl (fun w _ => add_step (o := oAt ops9 0) (rest := [1]) rfl rfl (by decide) rfl hA.s18 e1) fun w hF => ?_
  have hA1 := hA.put (d := 25) (.int .i64 (IntKind.wrap .i64 ((i : Int) + 1))) (by decide)
  have e25 : (a.put (some 25) (.int .i64 (IntKind.wrap .i64 ((i : Int) + 1)))).eval (.tmp 25) = .int .i64 (IntKind.wrap .i64 ((i : Int) + 1)) := eval_put_eq (Nat.lt_of_lt_of_le (by decide : 25 < 28) hA.size)
  have hw : IntKind.wrap .i64 ((i : Int) + 1) = ((i + 1 : Nat) : Int) := by rw [IntKind.wrap_i64]; omega
  rw [hw] at hA1 e25 ⊢
  generalize (a.put (some 25) (.int .i64 ((i + 1 : Nat) : Int))) = a1 at *
  refine idleM (g' := G (bM.at (a1.put (some 18) (.int .i64 ((i + 1 : Nat) : Int))) (.inRegion ops9 [] :: behindM)) cs) rlM hF rfl (fun w _ => move_step (o := oAt ops9 1) (rest := []) rfl rfl (by decide) rfl e25) fun w hF => ?_
  refine idleM rlM hF rfl (fun w _ => stepG_region_end) fun w hF => ?_
  refine idleM rlM hF rfl (fun w _ => stepG_inLoop) fun w hF => ?_
  refine h w _ hF ?_
  have ne : ∀ {k : Nat} {v : Value}, 18 ≠ k → (a1.put (some 18) v).eval (.tmp k) = a1.eval (.tmp k) := fun h => eval_put_ne h
  refine ⟨hA1.defers, ?_, (ne (by decide)).trans hA1.s3, (ne (by decide)).trans hA1.s6, (ne (by decide)).trans hA1.s7, (ne (by decide)).trans hA1.s16, (ne (by decide)).trans hA1.s17, ?_⟩
  · show (a1.tmps.setIfInBounds 18 _).size ≥ 28
    simpa using hA1.size
  · exact eval_put_eq (d := 18) (Nat.lt_of_lt_of_le (by decide : 18 < 28) hA1.size)

/-- ALL ROUNDS. -/
theorem rounds (hn : n < 2147483648) (hCW : C ≠ Wg) (hvp : ∀ i, i < n → ∃ p l c, vps i = .slice p l c) (hBeg : ∀ i, i < n → ∀ (X : Kn) w, MF Wg C bl ba n pa vps vl Base W0 X.ice w → Begin sh FL Q PV i X.on w (vps i) vl) :
    ∀ r, r ≤ n → ∀ (X : Kn) w (a : Act), (fun X w => MF Wg C bl ba n pa vps vl Base W0 X w ∧ WgLive tyW Wg w) X w → (MA Wg bl ba n pc pa (n - r) a → ∃ k m, ∀ S, S = (match r with | 0 => (fun X => Wt1 PP (RMn tyW Wg X) ((AnchM Wg C bl ba n pc pa vps vl Base W0 cs) X)) | r + 1 => fun X => Ad1 PP tyW Wg (RMn tyW Wg X) (AtGo (okW sh) tabs FL fsC tyW Wg C n Q PV ((Loop (okW sh) tabs FL fsC tyW Wg C n Q PV (AnchM Wg C bl ba n pc pa vps vl Base W0 cs)) r) (n - (r + 1)) X)) → TM PP tyW Wg C k m S X (headM a cs) w) ∧
      (∀ i, i + 1 = n - r → i < n → MA Wg bl ba n pc pa i a → (Loop (okW sh) tabs FL fsC tyW Wg C n Q PV (AnchM Wg C bl ba n pc pa vps vl Base W0 cs)) r X (wentM a cs) w) := by
  intro r
  induction r with
  | zero =>
    intro _ X w a hF
    refine ⟨fun hA => ⟨0, 110, fun S hS => by subst hS; exact head_end hA hF⟩, fun i hi hlt hA => ⟨0, 117, ?_⟩⟩
    exact went_head hn hlt hA hF fun w a' hF hA' => head_end (by rw [show i + 1 = n by omega] at hA'; exact hA') hF
  | succ r ih =>
    intro hr X w a hF
    have key : ∀ {X : Kn} {w : World} {a : Act}, (fun X w => MF Wg C bl ba n pa vps vl Base W0 X w ∧ WgLive tyW Wg w) X w → MA Wg bl ba n pc pa (n - (r + 1)) a → Goes PP true (RMn tyW Wg X) DC0 (Mem PP Wg C X fun X g w => ∃ m', TM PP tyW Wg C 4 m' (fun X => Ad1 PP tyW Wg (RMn tyW Wg X) (AtGo (okW sh) tabs FL fsC tyW Wg C n Q PV ((Loop (okW sh) tabs FL fsC tyW Wg C n Q PV (AnchM Wg C bl ba n pc pa vps vl Base W0 cs)) r) (n - (r + 1)) X)) X g w) 13 (headM a cs) w := by
      intro X w a hF hA
      have hlt : n - (r + 1) < n := by omega
      refine round_head (m := 0) hlt hA hF fun w a' ad hF hA' h20 hpa h21 => ?_
      refine memM rlM hF rfl fun w hF => ?_
      obtain ⟨ad', h1, h2, h3⟩ := hF.1.parts _ hlt
      rw [hpa] at h1
      cases h1
      refine ⟨G (bM.at (a'.put (some 22) (vps (n - (r + 1)))) (.inRegion ops6 [3, 4, 5, 6] :: mid6)) cs, w, _, X, step_load (t := 23) (o := oAt ops6 2) (rest := [3, 4, 5, 6]) rfl rfl (by decide) rfl h21 h3 Try.isAgg23 (fun w es => events_isAgg PP w es _) loudM, memOk_load (.inl (by rw [add_block']; exact h2)), 0, ?_⟩
      have hA2 := hA'.put (d := 22) (vps (n - (r + 1))) (by decide)
      refine round_boxes (m := 304) (hvp _ hlt) hA2 (Eq.trans (eval_put_ne (by decide)) h20) (eval_put_eq (Nat.lt_of_lt_of_le (by decide : 22 < 28) hA'.size)) hF fun X' w a3 bp bi hF hbi hbp hA3 h8 h9 => ?_
      exact round_add hlt hCW (fun w h => hBeg _ hlt X' w h) (fun w a' hF hA => (ih (by omega) X'.ice w a' hF).2 _ (by omega) hlt hA) hA3 h8 h9 hF hbi hbp
    refine ⟨fun hA => ⟨5, 13, fun S hS => by subst hS; exact key hF hA⟩, fun i hi hlt hA => ⟨5, 20, ?_⟩⟩
    exact went_head hn hlt hA hF fun w a' hF hA' => key hF (by rw [show i + 1 = n - (r + 1) by omega] at hA'; exact hA')
end
end Go.Proofs.Ytgkakgibgfehaaa.Ph

namespace Go.Proofs.Ytgkakgibgfehaaa.Ph
open Go.Conc Go.ConcN Go.RowKit Go.Conc.Lib Go.Proofs.Ytgkakgibgfehaaa.Sim
open Go.ConcR (KK wgBlock WgAt stA smA rd wr mk Payload DC0)

/-- Idle steps, beside others that only leave. -/
theorem beside_idle {P : Program} {Shun : Loc → Prop} {B : Nat} {S : Goroutine → World → Prop} : ∀ (m : Nat) {gs : Array Goroutine} {g : Goroutine} {w : World} {sl : Option (Nat × Nat)} {t : Trace} {q : Nat → Nat}, Team P Shun B gs g t q → Goes P true AtRel DC0 S m g w →
    ∃ N gs' g' sl' t' q' d, runNT P N (crowd gs w sl) t = (.next (crowd gs' (w.at d) sl'), t') ∧ gs'.size = gs.size ∧ Team P Shun B gs' g' t' q' ∧ S g' (w.at d) := by
  intro m
  induction m with
  | zero =>
    intro gs g w sl t q hT h
    exact ⟨0, gs, g, sl, t, q, w.drawn, rfl, rfl, hT, h _ (atRel_refl w)⟩
  | succ m ih =>
    intro gs g w sl t q hT h
    rcases h with h | ⟨hs, h⟩
    · exact ⟨0, gs, g, sl, t, q, w.drawn, rfl, rfl, hT, h _ (atRel_refl w)⟩
    · obtain ⟨N, gs', a', w', sl', t', q', hr, hsz, hT', ⟨d, rfl⟩, hG⟩ := beside_go' (sl := sl) (Nat.le_refl B) hT hs (K := fun a' w' => (∃ d, w' = w.at d) ∧ Goes P true AtRel DC0 S m a' w') fun d => by
        have := h (w.at d) ⟨d, rfl⟩
        revert this
        generalize stepG P true g (w.at d) = s
        intro this
        cases s with
        | go g' w' es =>
          obtain ⟨⟨rfl, rfl⟩, hk⟩ := this
          exact ⟨g', _, _, rfl, by simp, ⟨d, rfl⟩, hk⟩
        | _ => exact this.elim
      obtain ⟨N2, gs2, g2, sl2, t2, q2, d2, r1, r2, r3, r4⟩ := ih (sl := sl') hT' hG
      exact ⟨N + N2, gs2, g2, sl2, t2, q2, d2, (Go.Proofs.Ytgkakgibgfehaaa.Sim.runNT_add N N2 _ _ hr).trans r1, r2.trans hsz, r3, r4⟩

section
variable {sh : Nat → Nat} {FL : Array Func} {Q : Nat → Value → World → Prop} {PV : Nat → Value → Nat → Obj → Prop} {Wg C bl ba n pc B : Nat} {pa : Option Addr} {vps : Nat → Value} {vl : Value} {Base : Nat → Prop} {W0 : World} {X : Kn} {w : World} {cs : List Frame} {a : Act} {Sb : Nat → Prop}
  {gs : Array Goroutine} {t : Trace} {q : Nat → Nat} {sl : Option (Nat × Nat)}

/-- THE PHASE. -/
theorem phase_run (hP : ∀ Fz : Fr, Fz.lim = none → Fz.out = false → Progs (okW sh) tabs Fz FL fsC) (hn : n < 2147483648) (hCW : C ≠ Wg) (hvp : ∀ i, i < n → ∃ p l c, vps i = .slice p l c) (hBeg : ∀ i, i < n → ∀ (X : Kn) w, MF Wg C bl ba n pa vps vl Base W0 X.ice w → Begin sh FL Q PV i X.on w (vps i) vl)
    (hT : Team PP (shun Sb) B gs (headM a cs) t q) (hBW : B ≤ Wg) (hwB : B ≤ w.heap.size) (hSb : ∀ b, Sb b → b < w.heap.size) (hSC : ¬ Sb C) (hA : MA Wg bl ba n pc pa 0 a) (hF : MF Wg C bl ba n pa vps vl Base W0 X w) (hmu : ∀ b, ¬ X.mu b) (hfS : ∀ b, X.fz b → ¬ Sb b) (hfC : ∀ b, X.fz b → b ≠ C) (hfW : ∀ b, X.fz b → b ≠ Wg)
    (hwg : WgAt tyW Wg w 0 0) (hpay : PayAt C n w) :
    ∃ N gs' w' sl' t' q' a', runNT PP N (crowd gs w sl) t = (.next (crowd gs' w' sl'), t') ∧ Team PP (shun fun b => Sb b ∨ b = Wg) w'.heap.size gs' (G (bM.at a' (.inRegion ops10 [] :: [.code rest11])) cs) t' q' ∧ MA Wg bl ba n pc pa n a' ∧
      (∀ b, b < w.heap.size → b ≠ Wg → b ≠ C → w'.heap[b]? = w.heap[b]?) ∧ w.heap.size ≤ w'.heap.size ∧ w'.os = w.os ∧ w'.output = w.output ∧ w'.tape = w.tape ∧ PayAt C n w' ∧
      ∃ own : Nat → Nat, (∀ b, b < w.heap.size → own b = 0) ∧ ∀ i, i < n → ∃ v rb ro, Has C i v w' ∧ own rb = gs.size + i ∧ w'.heap[rb]? = some ro ∧ PV i v rb ro := by
  obtain ⟨j0, hj⟩ : ∃ j0, gs.size = j0 + 1 := ⟨gs.size - 1, by have := (Array.getElem?_eq_some_iff.1 hT.zero).1; omega⟩
  have hlW := hF.lW
  have hti0 := ti_start hT hBW hj
  have hti : TI (fun b => Sb b ∨ b = Wg) Wg (OwnF C j0 fun _ => 0) (RdF j0 fun _ _ => False) w.heap.size j0 t.size (j0 - j0) t := by
    rw [Nat.sub_self]
    have := hti0.turn (Own' := OwnF C j0 fun _ => 0) (Rd' := RdF j0 fun _ _ => False) (fun k l h1 h2 => ⟨fun h => by have := h.1; omega, False.elim⟩) (fun k l h1 h2 => ⟨fun h => by have := h.1; omega, False.elim⟩)
    exact ⟨this.ct, this.norel, this.from0, this.born, this.known, this.over, fun op hop y hy => Loc.low_mono hwB (this.low op hop y hy)⟩
  obtain ⟨D, hD⟩ : ∃ D : Nat → Wk, D = fun p => ⟨⟨1, 0, Deaf t (p + 1)⟩, 0, .num 0 (q (p + 1)), undef, 0, .cells #[] 0⟩ := ⟨_, rfl⟩
  have hears : Deaf t 0 = 0 := hT.past.elim fun _ h => h.hears
  have hcrew : Crew (okW sh) tabs FL fsC tyW Wg C n Q PV j0 (fun _ _ => False) (fun b => Sb b ∨ b = Wg) w.heap.size t.size w (fun _ => 0) j0 D gs w t 0 := by
    subst hD
    refine ⟨Nat.le_refl _, by omega, hj, fun p hp => ?_, fun p hp => rfl, hti, hears, fun p hp => rfl, fun p h1 h2 => by omega, fun p h1 h2 => by omega, fun p h1 h2 => by omega, hpay, ⟨_, _, hwg⟩, ⟨rfl, fun h => h.elim hSC hCW⟩, .inr rfl, fun b hb => ⟨rfl, hb.elim (hSb b) fun e => e ▸ hlW⟩, fun _ _ => rfl, fun _ _ h => h.elim, fun b h1 h2 h3 => ⟨rfl, rfl, h1⟩, fun p hp => acc_num _ _, rfl, rfl, rfl⟩
    have hlt : p + 1 < gs.size := by omega
    exact ⟨gs[p + 1], Array.getElem?_eq_getElem hlt, .old hp (hT.others.old (p + 1) _ (by omega) (Array.getElem?_eq_getElem hlt))⟩
  have hst1 : ∀ p, (baseOf D p).stage = 1 := fun p => by rw [hD]; rfl
  have hV : Vc j0 (baseOf D) = 0 := by
    have e : Vc j0 (baseOf D) = sumTo j0 fun _ => 0 := sumTo_congr fun p _ => by simp [cnt, hst1 p]
    rw [e]
    have := sumTo_le (f := fun _ => 0) (c := 0) (j := j0) fun _ _ => Nat.le_refl _
    simpa using this
  have hmode : ∀ tag, isOpen tag → pend tag = 0 → (∀ vs, tag ≠ .w2 vs) → ConcN.Mode j0 (baseOf D) tag 0 0 := fun tag h1 h2 h3 => by
    have := ConcN.Mode.opn (j := j0) (D := baseOf D) h1 (fun i _ => .inr (.inr (.inr (hst1 i)))) (fun vs e => absurd e (h3 vs))
    rw [hV, h2] at this
    simpa using this
  have hfz : ∀ b, X.fz b → (fun _ => 0 : Nat → Nat) b = 0 ∧ b ≠ C ∧ ¬ (Sb b ∨ b = Wg) ∧ b < w.heap.size := fun b hb => ⟨rfl, hfC b hb, fun h => h.elim (hfS b hb) (hfW b hb), hF.lX b (.inl hb)⟩
  have hround := (rounds (FL := FL) (Q := Q) (PV := PV) (cs := cs) hn hCW hvp hBeg n (Nat.le_refl n) X w a ⟨hF, ⟨_, _, hwg⟩⟩).1 (by rw [Nat.sub_self]; exact hA)
  have hInv : ∃ N kM fM, Inv (okW sh) tabs FL fsC tyW Wg C n Q PV j0 (NextM Wg C bl ba n pc pa vps vl Base W0 cs) (AnchM Wg C bl ba n pc pa vps vl Base W0 cs) (fun b => Sb b ∨ b = Wg) w.heap.size t.size w N j0 D kM fM (crowd gs w sl) t := by
    obtain ⟨k, m, hk⟩ := hround
    cases n with
    | zero => exact ⟨_, k, m, gs, w, sl, _, _, .kd, 0, X, 0, _, 0, 0, rfl, hT.zero, .kd (hk _ rfl), hcrew, hwg, hmode _ trivial rfl (by simp), hfz, fun b hb => absurd hb (hmu b), rfl⟩
    | succ r =>
      have h0 := MSit.s6 (ok := okW sh) (T := tabs) (FL := FL) (FC := fsC) (ty := tyW) (Wg := Wg) (C := C) (n := r + 1) (Q := Q) (PV := PV) (j0 := j0) (Next := NextM Wg C bl ba (r + 1) pc pa vps vl Base W0 cs) (Nat.lt_succ_self r) (hk _ rfl)
      rw [Nat.sub_self, Nat.add_zero] at h0
      exact ⟨_, k, m, gs, w, sl, _, _, .sp r 5, 0, X, 0, _, 0, 0, rfl, hT.zero, h0, hcrew, hwg, hmode _ trivial rfl (by simp), hfz, fun b hb => absurd hb (hmu b), rfl⟩
  obtain ⟨N0, kM, fM, hInv⟩ := hInv
  obtain ⟨K, m', t', hr, hover⟩ := phase hn (fun X g w h => by obtain ⟨_, _, _, h, _⟩ := h; rw [h]; rfl) hP (initsW sh) (fun _ _ => rfl) (fun X g w h => wait_again g w h) _ _ _ _ _ _ _ hInv
  obtain ⟨gs1, w1, sl1, a1, q1, X1, rfl, hsz, hT1, ⟨m1, hTo⟩, hSb1, hos, hout, htape, hstand, hpay1, hbelow, own, ho1, -, -, hres⟩ := over_team hover
  obtain ⟨N2, gs2, g2, sl2, t2, q2, d, r1, r2, r3, a', hA', rfl, hF', hl'⟩ := beside_idle (sl := sl1) m1 hT1 (goes_at (fun w d => ⟨fun _ _ => rfl, Nat.le_refl _, id, rfl, rfl, rfl⟩) hTo)
  have hsize : w.heap.size ≤ w1.heap.size := by
    rcases Nat.lt_or_ge w1.heap.size w.heap.size with hlt | hge
    · exact absurd (hbelow _ hlt) (Nat.lt_irrefl _)
    · exact hge
  exact ⟨K + N2, gs2, w1.at d, sl2, t2, q2, a', (Go.Proofs.Ytgkakgibgfehaaa.Sim.runNT_add K N2 _ _ hr).trans r1, r3, hA', fun b h1 h2 h3 => hstand b h1 h2 h3, hsize, hos, hout, htape, hpay1, own, ho1, fun i hi => by
    obtain ⟨v, rb, ro, y1, y2, y3, y4⟩ := hres i hi
    exact ⟨v, rb, ro, y1, by omega, y3, y4⟩⟩
end
end Go.Proofs.Ytgkakgibgfehaaa.Ph
