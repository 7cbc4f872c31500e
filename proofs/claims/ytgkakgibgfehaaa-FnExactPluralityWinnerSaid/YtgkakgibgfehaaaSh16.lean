/-
  MANY WORKERS THAT MAKE THINGS: where goroutine 0 stands; the invariant of the machine with its measure; whatever step of another's, once its ingredients are given. No condition but what each theorem says.
  MANY WORKERS THAT MAKE THINGS: A STEP OF ANOTHER's KEEPS THE INVARIANT AND LOWERS THE MEASURE: on its way to the call and behind it; within the call (beside the lone contract's tree); in the deferred Done; leaving. No condition but what each theorem says.
-/
import Derived.Test.YtgkakgibgfehaaaSh15
namespace Go.Proofs.Ytgkakgibgfehaaa.Ph
open Go.Conc Go.ConcN Go.Proofs.Ytgkakgibgfehaaa.Sim
open Go.ConcR (KK wgBlock WgAt stA smA rd wr mk Payload DC0 Bk g_of_ofEvents again_blocked)
variable [Payload]

section
variable (ok : Cx) (T : Tables) (FL FC : Array Func) (ty : TypeId) (Wg C n : Nat) (Q : Nat → Value → World → Prop) (PV : Nat → Value → Nat → Obj → Prop) (j0 : Nat) (Next Anch : Kn → Goroutine → World → Prop)

def AtGo (L : Kn → Goroutine → World → Prop) (i : Nat) (X : Kn) (g : Goroutine) (w : World) : Prop :=
  g.status = .running ∧ ∃ g' child, stepG (prg T FC) true g w = .spawn g' child w #[] ∧ child.status = .running ∧
    (PayAt C n w → WgLive ty Wg w → ∃ k m, TW (prg T FC) ty Wg C n i X.on k m (AtSim ok T FL FC ty Wg C n Q PV i X.on) child w) ∧ L X.ice g' w
/-- r workers are still to be started. -/
def Loop : Nat → Kn → Goroutine → World → Prop
  | 0, X, g, w => ∃ k m, TM (prg T FC) ty Wg C k m (fun X => Wt1 (prg T FC) (RMn ty Wg X) (Anch X)) X g w
  | r + 1, X, g, w => ∃ k m, TM (prg T FC) ty Wg C k m (fun X => Ad1 (prg T FC) ty Wg (RMn ty Wg X) (AtGo ok T FL FC ty Wg C n Q PV (Loop r) (n - (r + 1)) X)) X g w
/-- Where goroutine 0 stands: the library's tag, and a place within it; steps of memory and idle ones ahead; deafness; what it knows; how many others there are. -/
inductive MSit : CTag → Nat → Nat → Nat → Nat → Kn → Nat → Goroutine → World → Prop
  | s6 {r k m : Nat} {X : Kn} {g : Goroutine} {w : World} : r < n → TM (prg T FC) ty Wg C k m (fun X => Ad1 (prg T FC) ty Wg (RMn ty Wg X) (((AtGo ok T FL FC ty Wg C n Q PV (Loop ok T FL FC ty Wg C n Q PV Anch r) (n - (r + 1)))) X)) X g w → MSit (.sp r 5) 0 k m 0 X (j0 + (n - (r + 1))) g w
  | s5 {r m : Nat} {X : Kn} {g : Goroutine} {w : World} : r < n → Goes (prg T FC) true (RMn ty Wg X) DC0 (Ad2 (prg T FC) ty Wg (RMn ty Wg X) (((AtGo ok T FL FC ty Wg C n Q PV (Loop ok T FL FC ty Wg C n Q PV Anch r) (n - (r + 1)))) X)) m g w → MSit (.sp r 4) 0 0 m 1 X (j0 + (n - (r + 1))) g w
  | s4 {r m : Nat} {X : Kn} {g : Goroutine} {w : World} : r < n → Goes (prg T FC) true (RMn ty Wg X) DC0 (Said (prg T FC) Wg false (To (prg T FC) (RMn ty Wg X) (Ad3 (prg T FC) (RMn ty Wg X) (((AtGo ok T FL FC ty Wg C n Q PV (Loop ok T FL FC ty Wg C n Q PV Anch r) (n - (r + 1)))) X)))) m g w → MSit (.sp r 3) 1 0 m 1 X (j0 + (n - (r + 1))) g w
  | s3 {r m : Nat} {X : Kn} {g : Goroutine} {w : World} : r < n → Goes (prg T FC) true (RMn ty Wg X) DC0 (Ad3 (prg T FC) (RMn ty Wg X) (((AtGo ok T FL FC ty Wg C n Q PV (Loop ok T FL FC ty Wg C n Q PV Anch r) (n - (r + 1)))) X)) m g w → MSit (.sp r 3) 0 0 m 1 X (j0 + (n - (r + 1))) g w
  | s2 {r m : Nat} {X : Kn} {g : Goroutine} {w : World} : r < n → Goes (prg T FC) true (RMn ty Wg X) DC0 (((AtGo ok T FL FC ty Wg C n Q PV (Loop ok T FL FC ty Wg C n Q PV Anch r) (n - (r + 1)))) X) m g w → MSit (.sp r 2) 0 0 m 0 X (j0 + (n - (r + 1))) g w
  | kd {k m : Nat} {X : Kn} {g : Goroutine} {w : World} : TM (prg T FC) ty Wg C k m (fun X => Wt1 (prg T FC) (RMn ty Wg X) (Anch X)) X g w → MSit .kd 0 k m 0 X (j0 + n) g w
  | anch {m : Nat} {X : Kn} {g : Goroutine} {w : World} : Goes (prg T FC) true (RMn ty Wg X) DC0 (Anch X) m g w → MSit .anch 0 0 m 1 X (j0 + n) g w
  | w1 {m : Nat} {X : Kn} {g : Goroutine} {w : World} : Goes (prg T FC) true (RMn ty Wg X) DC0 (Wt2 (prg T FC) ty Wg (RMn ty Wg X) (Next X) (Anch X)) m g w → MSit .w1 0 0 m 1 X (j0 + n) g w
  | w2 {vs m : Nat} {X : Kn} {g : Goroutine} {w : World} : Goes (prg T FC) true (RMn ty Wg X) DC0 (Wt3 (prg T FC) ty Wg (RMn ty Wg X) (Next X) (Anch X) vs) m g w → MSit (.w2 vs) 0 0 m 1 X (j0 + n) g w
  | sd {m : Nat} {X : Kn} {g : Goroutine} {w : World} : Goes (prg T FC) true (RMn ty Wg X) DC0 (Said (prg T FC) Wg true (To (prg T FC) (RMn ty Wg X) (Wt4 (prg T FC) ty Wg (RMn ty Wg X) (Next X)))) m g w → MSit .w3 1 0 m 1 X (j0 + n) g w
  | w3 {m : Nat} {X : Kn} {g : Goroutine} {w : World} : Goes (prg T FC) true (RMn ty Wg X) DC0 (Wt4 (prg T FC) ty Wg (RMn ty Wg X) (Next X)) m g w → MSit .w3 0 0 (m + 1) 1 X (j0 + n) g w
  | blk {X : Kn} {g : Goroutine} {w : World} : (∀ w₁, RMn ty Wg X w w₁ → Wt4 (prg T FC) ty Wg (RMn ty Wg X) (Next X) g w₁) → MSit .blk 0 0 0 1 X (j0 + n) { g with status := .blocked } w
  | w4 {m : Nat} {X : Kn} {g : Goroutine} {w : World} : Goes (prg T FC) true (RMn ty Wg X) DC0 (Wt5 (prg T FC) ty Wg (RMn ty Wg X) (Next X)) m g w → MSit .w4 0 0 m 1 X (j0 + n) g w
  | ke {m : Nat} {X : Kn} {g : Goroutine} {w : World} : Goes (prg T FC) true (RMn ty Wg X) DC0 (Wt6 (prg T FC) Wg (RMn ty Wg X) (Next X)) m g w → MSit .ke 0 0 m 1 X (j0 + n) g w
  | acq {m : Nat} {X : Kn} {g : Goroutine} {w : World} : Goes (prg T FC) true (RMn ty Wg X) DC0 (Wt7 (prg T FC) Wg (RMn ty Wg X) (Next X)) m g w → MSit .acq 0 0 m 0 X (j0 + n) g w
end

section
variable {ok : Cx} {T : Tables} {FL FC : Array Func} {ty : TypeId} {Wg C n : Nat} {Q : Nat → Value → World → Prop} {PV : Nat → Value → Nat → Obj → Prop} {j0 : Nat} {Next Anch : Kn → Goroutine → World → Prop}
  {tag : CTag} {e kM fM d0 : Nat} {X : Kn} {J : Nat} {a : Goroutine} {w w' : World}

omit [Payload] in
theorem TM.rely {P : Program} {S : Kn → Goroutine → World → Prop} {k m : Nat} (h : TM P ty Wg C k m S X a w) (r : RMn ty Wg X w w') : TM P ty Wg C k m S X a w' := by
  have tr : ∀ x y z, RMn ty Wg X x y → RMn ty Wg X y z → RMn ty Wg X x z := fun _ _ _ h1 h2 => h1.trans h2
  cases k with
  | zero => exact Goes.rely tr h r
  | succ k => exact Goes.rely tr h r
omit [Payload] in
theorem TM.running {P : Program} {S : Kn → Goroutine → World → Prop} (hS : ∀ X g w, S X g w → g.status = .running) {k m : Nat} (h : TM P ty Wg C k m S X a w) : a.status = .running := by
  cases k with
  | zero => exact Goes.running (hS X) w (.refl w) h
  | succ k => exact Goes.running (fun _ _ x => x.1) w (.refl w) h
theorem MSit.rely (h : MSit ok T FL FC ty Wg C n Q PV j0 Next Anch tag e kM fM d0 X J a w) (r : RMn ty Wg X w w') : MSit ok T FL FC ty Wg C n Q PV j0 Next Anch tag e kM fM d0 X J a w' := by
  have tr : ∀ x y z, RMn ty Wg X x y → RMn ty Wg X y z → RMn ty Wg X x z := fun _ _ _ h1 h2 => h1.trans h2
  cases h with
  | s6 hn h => exact .s6 hn (h.rely r)
  | s5 hn h => exact .s5 hn (Goes.rely tr h r)
  | s4 hn h => exact .s4 hn (Goes.rely tr h r)
  | s3 hn h => exact .s3 hn (Goes.rely tr h r)
  | s2 hn h => exact .s2 hn (Goes.rely tr h r)
  | kd h => exact .kd (h.rely r)
  | anch h => exact .anch (Goes.rely tr h r)
  | w1 h => exact .w1 (Goes.rely tr h r)
  | w2 h => exact .w2 (Goes.rely tr h r)
  | sd h => exact .sd (Goes.rely tr h r)
  | w3 h => exact .w3 (Goes.rely tr h r)
  | blk h => exact .blk fun w₂ h₂ => h w₂ (r.trans h₂)
  | w4 h => exact .w4 (Goes.rely tr h r)
  | ke h => exact .ke (Goes.rely tr h r)
  | acq h => exact .acq (Goes.rely tr h r)
theorem MSit.status (hAr : ∀ X g w, Anch X g w → g.status = .running) (h : MSit ok T FL FC ty Wg C n Q PV j0 Next Anch tag e kM fM d0 X J a w) : (a.status = .running ∧ tag ≠ .blk) ∨ (a.status = .blocked ∧ tag = .blk) := by
  cases h with
  | s6 _ h => exact .inl ⟨h.running fun _ _ _ x => x.1, by simp⟩
  | s5 _ h => exact .inl ⟨Goes.running (fun _ _ x => x.1) w (.refl w) h, by simp⟩
  | s4 _ h => exact .inl ⟨Goes.running (fun _ _ x => x.1) w (.refl w) h, by simp⟩
  | s3 _ h => exact .inl ⟨Goes.running (fun _ _ x => x.1) w (.refl w) h, by simp⟩
  | s2 _ h => exact .inl ⟨Goes.running (fun _ _ x => x.1) w (.refl w) h, by simp⟩
  | kd h => exact .inl ⟨h.running fun _ _ _ x => x.1, by simp⟩
  | anch h => exact .inl ⟨Goes.running (hAr X) w (.refl w) h, by simp⟩
  | w1 h => exact .inl ⟨Goes.running (fun _ _ x => x.1) w (.refl w) h, by simp⟩
  | w2 h => exact .inl ⟨Goes.running (fun _ _ x => x.1) w (.refl w) h, by simp⟩
  | sd h => exact .inl ⟨Goes.running (fun _ _ x => x.1) w (.refl w) h, by simp⟩
  | w3 h => exact .inl ⟨Goes.running (fun _ _ x => x.1) w (.refl w) h, by simp⟩
  | blk h => exact .inr ⟨rfl, rfl⟩
  | w4 h => exact .inl ⟨Goes.running (fun _ _ x => x.1) w (.refl w) h, by simp⟩
  | ke h => exact .inl ⟨Goes.running (fun _ _ x => x.1) w (.refl w) h, by simp⟩
  | acq h => exact .inl ⟨Goes.running (fun _ _ x => x.1) w (.refl w) h, by simp⟩
/-- Under another's step; blocked, it may be let try again. -/
theorem MSit.wokenBy (hAr : ∀ X g w, Anch X g w → g.status = .running) (h : MSit ok T FL FC ty Wg C n Q PV j0 Next Anch tag e kM fM d0 X J a w) (r : RMn ty Wg X w w') (P : Program) (g g' : Goroutine) :
    ∃ tag' fM', MSit ok T FL FC ty Wg C n Q PV j0 Next Anch tag' e kM fM' d0 X J (woken P g g' w' a) w' ∧ (tag' = tag ∨ (tag = .blk ∧ tag' = .w3)) ∧ (mayWake P g = true → g'.status = .running → tag' ≠ .blk) := by
  have h' := h.rely r
  unfold Go.Conc.woken
  split
  · rcases h'.status hAr with ⟨hs, hne⟩ | ⟨_, rfl⟩
    · exact ⟨tag, fM, by rw [again_running _ (.inl hs)]; exact h', .inl rfl, fun _ _ => hne⟩
    · cases h' with
      | blk hb =>
        rename_i g0
        have h3 := hb w' (.refl w')
        exact ⟨.w3, 0 + 1, by rw [again_blocked h3.1 h3.2.1]; exact .w3 (Goes.stop hb), .inr ⟨rfl, rfl⟩, fun _ _ => by simp⟩
  · rename_i hc
    exact ⟨tag, fM, h', .inl rfl, fun h1 h2 => absurd (by simp [h1, h2]) hc⟩
theorem MSit.bound (h : MSit ok T FL FC ty Wg C n Q PV j0 Next Anch tag e kM fM d0 X J a w) : J + pend tag ≤ j0 + n := by
  cases h <;> simp only [pend] <;> (try simp) <;> omega
end

/-! ### the invariant -/
def baseOf (D : Nat → Wk) (p : Nat) : WD := (D p).base
omit [Payload] in
theorem baseOf_upd (D : Nat → Wk) (p : Nat) (x : Wk) : baseOf (upd D p x) = upd (baseOf D) p x.base := by
  funext q
  unfold baseOf upd
  split <;> rfl
def rank (n J : Nat) (D : Nat → Wk) (tag : CTag) (e : Nat) : Nat := 2 * phi n (Vc J (baseOf D)) tag + e + sumTo J fun p => (D p).base.stage + (D p).ex
/-- The measure goes down. -/
def Less (P : Program) (N J : Nat) (D : Nat → Wk) (k f N' J' : Nat) (D' : Nat → Wk) (k' f' : Nat) : Prop :=
  N' < N ∨ (N' = N ∧ J' = J ∧ (OneDown (NdLt P) J (fun p => (D' p).nd) (fun p => (D p).nd) ∨ (D' = D ∧ (k' < k ∨ (k' = k ∧ f' < f)))))

section
variable (ok : Cx) (T : Tables) (FL FC : Array Func) (ty : TypeId) (Wg C n : Nat) (Q : Nat → Value → World → Prop) (PV : Nat → Value → Nat → Obj → Prop) (j0 : Nat) (Next Anch : Kn → Goroutine → World → Prop) (Sb : Nat → Prop) (B0 t0 : Nat) (W0 : World)
def Inv (N J : Nat) (D : Nat → Wk) (kM fM : Nat) (m : Machine) (t : Trace) : Prop :=
  ∃ (gs : Array Goroutine) (w : World) (sl : Option (Nat × Nat)) (own : Nat → Nat) (rdS : Nat → Nat → Prop) (tag : CTag) (e : Nat) (X : Kn) (d0 : Nat) (a : Goroutine) (st sm : Int),
    m = crowd gs w sl ∧ gs[0]? = some a ∧ MSit ok T FL FC ty Wg C n Q PV j0 Next Anch tag e kM fM d0 X J a w ∧ Crew ok T FL FC ty Wg C n Q PV j0 rdS Sb B0 t0 W0 own J D gs w t d0 ∧ WgAt ty Wg w st sm ∧ ConcN.Mode J (baseOf D) tag st sm ∧
    (∀ b, X.fz b → own b = 0 ∧ b ≠ C ∧ ¬ Sb b ∧ b < w.heap.size) ∧ (∀ b, X.mu b → own b = j0 + n + 1) ∧ N = rank n J D tag e
end

section
variable {ok : Cx} {T : Tables} {FL FC : Array Func} {ty : TypeId} {Wg C n : Nat} {Q : Nat → Value → World → Prop} {PV : Nat → Value → Nat → Obj → Prop} {j0 : Nat} {Next Anch : Kn → Goroutine → World → Prop} {rdS : Nat → Nat → Prop}
  {Sb : Nat → Prop} {B0 t0 : Nat} {W0 : World} {own : Nat → Nat} {J : Nat} {D : Nat → Wk} {gs : Array Goroutine} {w w' : World} {t : Trace} {d0 : Nat} {tag : CTag} {e kM fM : Nat} {X : Kn} {a : Goroutine} {sl : Option (Nat × Nat)}

/-- What goroutine 0 suffers. -/
theorem Crew.suffer (h : Crew ok T FL FC ty Wg C n Q PV j0 rdS Sb B0 t0 W0 own J D gs w t d0) (hfz : ∀ b, X.fz b → own b = 0 ∧ b ≠ C ∧ ¬ Sb b ∧ b < w.heap.size) (hmu : ∀ b, X.mu b → own b = j0 + n + 1) {p : Nat} (hp : p < J) (hT : Turn Wg C own (p + 1) w w') (hlive : WgLive ty Wg w') : RMn ty Wg X w w' := by
  have hle' := h.le'
  refine ⟨fun b hb => ?_, hT.size, fun _ => hlive, hT.os, hT.output, hT.tape⟩
  rcases hb with hb | hb
  · obtain ⟨h1, h2, h3, h4⟩ := hfz b hb
    exact hT.keep b h4 (fun e => h3 (e ▸ h.ownW)) h2 (by omega)
  · have h1 := hmu b hb
    have hW := (h.ownS Wg h.ownW).1
    have hC := h.ownC.1
    exact hT.keep b (h.low (by omega)) (fun e => by rw [e] at h1; omega) (fun e => by rw [e] at h1; omega) (by omega)

/-- WHATEVER STEP OF ANOTHER's. -/
theorem other_step (hAr : ∀ X g w, Anch X g w → g.status = .running) (ha : gs[0]? = some a) (hM : MSit ok T FL FC ty Wg C n Q PV j0 Next Anch tag e kM fM d0 X J a w) (h : Crew ok T FL FC ty Wg C n Q PV j0 rdS Sb B0 t0 W0 own J D gs w t d0)
    (hfz : ∀ b, X.fz b → own b = 0 ∧ b ≠ C ∧ ¬ Sb b ∧ b < w.heap.size) (hmu : ∀ b, X.mu b → own b = j0 + n + 1)
    {p : Nat} (hp : p < J) {g g' : Goroutine} {es : Array Event} {x : Wk} (hg : gs[p + 1]? = some g) (hgo : stepG (prg T FC) false g w = .go g' w' es) (hT : Turn Wg C own (p + 1) w w')
    (hpay : PayAt C n w') {st' sm' : Int} (hwg : WgAt ty Wg w' st' sm') (hcell : ∀ i, (j0 ≤ p → i ≠ p - j0) → w'.cell? ⟨C, i, none⟩ = w.cell? ⟨C, i, none⟩)
    (hs : Sit ok T FL FC ty Wg C n Q PV j0 rdS (own' own (p + 1) w w') p x.v x.base.stage x.ex x.base.deaf x.nd g' w') (hev : ∀ e ∈ es, EvK Sb Wg C j0 (own' own (p + 1) w w') rdS p w'.heap.size e)
    (hold : p < j0 → x.base.stage = 1) (hdeaf : deafBehind (D p).base.deaf es = x.base.deaf)
    (hrel : j0 ≤ p → x.base.stage ≤ 6 → ∃ r, RelBy (stA Wg) (t ++ MemOp.ofEvents (p + 1) g.frame.fn g.frame.place es) (p + 1) r) (hhas : j0 ≤ p → x.base.stage ≤ 6 → Has C (p - j0) x.v w')
    (hres : j0 ≤ p → x.base.stage + x.ex ≤ 8 → own' own (p + 1) w w' x.rb = p + 1 ∧ w'.heap[x.rb]? = some x.ro ∧ PV (p - j0) x.v x.rb x.ro) (hacc : Acc (NdLt (prg T FL)) x.nd)
    (hmode : ∀ tag', (tag' = tag ∨ (tag = .blk ∧ tag' = .w3)) → (mayWake (prg T FC) g = true → g'.status = .running → tag' ≠ .blk) → ConcN.Mode J (upd (baseOf D) p x.base) tag' st' sm')
    (hlt : (x.base.stage + x.ex < (D p).base.stage + (D p).ex ∧ cnt x.base ≤ cnt (D p).base) ∨ (x.base.stage = (D p).base.stage ∧ x.ex = (D p).ex ∧ NdLt (prg T FL) x.nd (D p).nd)) :
    ∃ m₁ ops N' D' k' f', runT (prg T FC) (crowd gs w sl) (p + 1) = (.next m₁, ops) ∧ Less (prg T FL) (rank n J D tag e) J D kM fM N' J D' k' f' ∧ Inv ok T FL FC ty Wg C n Q PV j0 Next Anch Sb B0 t0 W0 N' J D' k' f' m₁ (t ++ ops) := by
  have hlive : WgLive ty Wg w' := ⟨_, _, hwg⟩
  obtain ⟨tag', fM', hM', htag, hwk⟩ := hM.wokenBy hAr (h.suffer hfz hmu hp hT hlive) (prg T FC) g g'
  have hrun := runT_crowd_go (P := prg T FC) (sl := sl) (i := p + 1) hg (by simpa using hgo)
  have e1 := sumTo_upd D x (fun y => cnt y.base) hp
  have e2 := sumTo_upd D x (fun y => y.base.stage + y.ex) hp
  have hV : ∀ E : Nat → Wk, Vc J (baseOf E) = sumTo J fun q => cnt (E q).base := fun _ => rfl
  refine ⟨_, _, rank n J (upd D p x) tag' e, upd D p x, kM, fM', hrun, ?_, _, w', sl, own' own (p + 1) w w', rdS, tag', e, X, d0, woken (prg T FC) g g' w' a, st', sm', rfl, by rw [get_map_set _ _ _ _ (by omega), ha]; rfl, hM',
    h.stepW hp hT hpay hlive hcell hs hev hold hdeaf hrel hhas hres hacc, hwg, by rw [baseOf_upd]; exact hmode tag' htag hwk, fun b hb => ?_, fun b hb => ?_, rfl⟩
  · unfold Less rank
    rw [phi_retag n _ htag, hV, hV]
    rcases hlt with ⟨h1, h2⟩ | ⟨h1, h2, h3⟩
    · left
      have := phi_mono n (v' := sumTo J fun q => cnt (upd D p x q).base) (v := sumTo J fun q => cnt (D q).base) (by omega) tag
      omega
    · right
      have ec : cnt x.base = cnt (D p).base := by simp only [cnt, h1]
      have ev : (sumTo J fun q => cnt (upd D p x q).base) = sumTo J fun q => cnt (D q).base := by omega
      rw [ev]
      refine ⟨?_, rfl, .inl ⟨p, hp, by simpa only [upd_same] using h3, fun q _ hne => by simp only [upd_ne D _ hne]⟩⟩
      omega
  · obtain ⟨h1, h2, h3, h4⟩ := hfz b hb
    exact ⟨by rw [own'_low h4]; exact h1, h2, h3, Nat.lt_of_lt_of_le h4 hT.size⟩
  · have h1 := hmu b hb
    rw [own'_low (h.low (by omega))]; exact h1
end
end Go.Proofs.Ytgkakgibgfehaaa.Ph

namespace Go.Proofs.Ytgkakgibgfehaaa.Ph
open Go.Conc Go.ConcN Go.Proofs.Ytgkakgibgfehaaa.Sim
open Go.ConcR (KK wgBlock WgAt stA smA rd wr mk Payload DC0 Bk g_of_ofEvents bk_of_mute ofEvent_loc_mark ofEvent_cell)
variable [Payload]

section
variable (ok : Cx) (T : Tables) (FL FC : Array Func) (ty : TypeId) (Wg C n : Nat) (Q : Nat → Value → World → Prop) (PV : Nat → Value → Nat → Obj → Prop) (j0 : Nat) (Next Anch : Kn → Goroutine → World → Prop) (Sb : Nat → Prop) (B0 t0 : Nat) (W0 : World)
/-- The invariant at a moment, its parts named. -/
structure Now (own : Nat → Nat) (rdS : Nat → Nat → Prop) (tag : CTag) (e : Nat) (X : Kn) (d0 : Nat) (a : Goroutine) (st sm : Int) (J : Nat) (D : Nat → Wk) (kM fM : Nat) (gs : Array Goroutine) (w : World) (t : Trace) : Prop where
  ha : gs[0]? = some a
  main : MSit ok T FL FC ty Wg C n Q PV j0 Next Anch tag e kM fM d0 X J a w
  crew : Crew ok T FL FC ty Wg C n Q PV j0 rdS Sb B0 t0 W0 own J D gs w t d0
  wg : WgAt ty Wg w st sm
  mode : ConcN.Mode J (baseOf D) tag st sm
  fz : ∀ b, X.fz b → own b = 0 ∧ b ≠ C ∧ ¬ Sb b ∧ b < w.heap.size
  mu : ∀ b, X.mu b → own b = j0 + n + 1
/-- The machine goes on, and the measure goes down. -/
def On (N J : Nat) (D : Nat → Wk) (kM fM : Nat) (t : Trace) (s : Stepped × Trace) : Prop :=
  ∃ m₁ N' D' k' f' J', s.1 = .next m₁ ∧ Less (prg T FL) N J D kM fM N' J' D' k' f' ∧ Inv ok T FL FC ty Wg C n Q PV j0 Next Anch Sb B0 t0 W0 N' J' D' k' f' m₁ (t ++ s.2)
end

section
variable {ok : Cx} {T : Tables} {FL FC : Array Func} {ty : TypeId} {Wg C n : Nat} {Q : Nat → Value → World → Prop} {PV : Nat → Value → Nat → Obj → Prop} {j0 : Nat} {Next Anch : Kn → Goroutine → World → Prop} {rdS : Nat → Nat → Prop}
  {Sb : Nat → Prop} {B0 t0 : Nat} {W0 : World} {own : Nat → Nat} {J : Nat} {D : Nat → Wk} {gs : Array Goroutine} {w w' : World} {t : Trace} {d0 : Nat} {tag : CTag} {e kM fM : Nat} {X : Kn} {a : Goroutine} {sl : Option (Nat × Nat)} {st sm : Int}

theorem Now.step (hAr : ∀ X g w, Anch X g w → g.status = .running) (h : (Now ok T FL FC ty Wg C n Q PV j0 Next Anch Sb B0 t0 W0 own rdS tag e X d0 a st sm J D kM fM gs w t))
    {p : Nat} (hp : p < J) {g g' : Goroutine} {es : Array Event} {x : Wk} (hg : gs[p + 1]? = some g) (hgo : stepG (prg T FC) false g w = .go g' w' es) (hT : Turn Wg C own (p + 1) w w')
    (hpay : PayAt C n w') {st' sm' : Int} (hwg : WgAt ty Wg w' st' sm') (hcell : ∀ i, (j0 ≤ p → i ≠ p - j0) → w'.cell? ⟨C, i, none⟩ = w.cell? ⟨C, i, none⟩)
    (hs : Sit ok T FL FC ty Wg C n Q PV j0 rdS (own' own (p + 1) w w') p x.v x.base.stage x.ex x.base.deaf x.nd g' w') (hev : ∀ e ∈ es, EvK Sb Wg C j0 (own' own (p + 1) w w') rdS p w'.heap.size e)
    (hold : p < j0 → x.base.stage = 1) (hdeaf : deafBehind (D p).base.deaf es = x.base.deaf)
    (hrel : j0 ≤ p → x.base.stage ≤ 6 → ∃ r, RelBy (stA Wg) (t ++ MemOp.ofEvents (p + 1) g.frame.fn g.frame.place es) (p + 1) r) (hhas : j0 ≤ p → x.base.stage ≤ 6 → Has C (p - j0) x.v w')
    (hres : j0 ≤ p → x.base.stage + x.ex ≤ 8 → own' own (p + 1) w w' x.rb = p + 1 ∧ w'.heap[x.rb]? = some x.ro ∧ PV (p - j0) x.v x.rb x.ro) (hacc : Acc (NdLt (prg T FL)) x.nd)
    (hmode : ∀ tag', (tag' = tag ∨ (tag = .blk ∧ tag' = .w3)) → (mayWake (prg T FC) g = true → g'.status = .running → tag' ≠ .blk) → ConcN.Mode J (upd (baseOf D) p x.base) tag' st' sm')
    (hlt : (x.base.stage + x.ex < (D p).base.stage + (D p).ex ∧ cnt x.base ≤ cnt (D p).base) ∨ (x.base.stage = (D p).base.stage ∧ x.ex = (D p).ex ∧ NdLt (prg T FL) x.nd (D p).nd)) :
    (On ok T FL FC ty Wg C n Q PV j0 Next Anch Sb B0 t0 W0) (rank n J D tag e) J D kM fM t (runT (prg T FC) (crowd gs w sl) (p + 1)) := by
  obtain ⟨m₁, ops, N', D', k', f', h1, h2, h3⟩ := other_step (sl := sl) hAr h.ha h.main h.crew h.fz h.mu hp hg hgo hT hpay hwg hcell hs hev hold hdeaf hrel hhas hres hacc hmode hlt
  rw [h1]
  exact ⟨m₁, N', D', k', f', J, rfl, h2, h3⟩

omit [Payload] in
theorem turn_same (h : w'.heap = w.heap) (ho : w'.os = w.os) (hp : w'.output = w.output) (ht : w'.tape = w.tape) {k : Nat} : Turn Wg C own k w w' := ⟨by rw [h]; exact Nat.le_refl _, fun _ _ _ _ _ => by rw [h], ho, hp, ht⟩
omit [Payload] in
theorem turn_aside {b : Nat} (h : Aside b w w') (hb : b = Wg ∨ b = C) {k : Nat} : Turn Wg C own k w w' :=
  ⟨by rw [h.size]; exact Nat.le_refl _, fun x _ h1 h2 _ => h.block x (by rcases hb with rfl | rfl <;> assumption), h.os, h.output, h.tape⟩

/-! ### a script -/
theorem tw_cases {P P' : Program} {i : Nat} {rdk : Nat → Prop} {S : Goroutine → World → Prop} {k m : Nat} {g : Goroutine} (h : TW P ty Wg C n i rdk k m S g w) :
    S g w ∨ ∃ g' w' es k' m', stepG P false g w = .go g' w' es ∧ MW C i rdk w w' es ∧ TW P ty Wg C n i rdk k' m' S g' w' ∧ NdLt P' (.num k' m') (.num k m) := by
  have idle : ∀ w : World, MW C i rdk w w #[] := fun w => .inl ⟨w.drawn, rfl, by simp⟩
  cases k with
  | zero =>
    rcases Goes.cases h with hs | ⟨m', rfl, hstep⟩
    · exact .inl (hs w (RWk.refl w))
    · obtain ⟨g', w', es, hgo, ⟨rfl, rfl⟩, hk⟩ := hstep w (RWk.refl w)
      exact .inr ⟨g', _, _, 0, m', hgo, idle _, hk, .near (Nat.lt_succ_self m')⟩
  | succ k =>
    rcases Goes.cases h with hs | ⟨m', rfl, hstep⟩
    · rcases hs w (RWk.refl w) with hs | ⟨_, g', w', es, hgo, hm, m', hk⟩
      · exact .inl hs
      · exact .inr ⟨g', w', es, k, m', hgo, hm, hk, .far (Nat.lt_succ_self k)⟩
    · obtain ⟨g', w', es, hgo, ⟨rfl, rfl⟩, hk⟩ := hstep w (RWk.refl w)
      exact .inr ⟨g', _, _, k + 1, m', hgo, idle _, hk, .near (Nat.lt_succ_self m')⟩

omit [Payload] in
theorem evK_read {p B : Nat} {b : Nat → Nat} (h0 : j0 ≤ p) {a : Addr} (hr : rdS p a.block) (hB : a.block < B) : EvK Sb Wg C j0 b rdS p B ⟨.cell a, false, false⟩ := by
  refine ⟨fun y hy => ?_, by simp, fun y hy => ?_⟩ <;> rw [ofEvent_cell] at hy <;> simp only [MemAct.touch?, Option.some.injEq] at hy <;> subst hy
  case refine_2 => exact hB
  exact ⟨by omega, .inr ⟨rfl, rfl, .inr ⟨⟨by omega, a.block, rfl, by simpa using hr⟩, rfl⟩⟩⟩
omit [Payload] in
theorem evK_own {p B : Nat} {b : Nat → Nat} (h0 : j0 ≤ p) (hB : C < B) : EvK Sb Wg C j0 b rdS p B ⟨.cell ⟨C, p - j0, none⟩, true, false⟩ := by
  refine ⟨fun y hy => ?_, by simp, fun y hy => ?_⟩ <;> rw [ofEvent_cell] at hy <;> simp only [MemAct.touch?, Option.some.injEq] at hy <;> subst hy
  case refine_2 => exact hB
  exact ⟨by omega, .inr ⟨rfl, rfl, .inl ⟨by omega, .inr (by show Loc.cell _ = Loc.cell _; rw [show p + 1 - (j0 + 1) = p - j0 by omega])⟩⟩⟩
omit [Payload] in
theorem deaf_plain {es : Array Event} (h : ∀ e ∈ es, ∃ a x, e = ⟨.cell a, x, false⟩) (d : Nat) : deafBehind d es = d := deafBehind_idle (fun e he => by obtain ⟨a, x, rfl⟩ := h e he; exact ⟨by simp, by simp⟩) d

theorem setC (hp : PayAt C n w) (i : Nat) (v : Value) : PayAt C n (w.setCell ⟨C, i, none⟩ v) ∧ ∀ i', i' ≠ i → (w.setCell ⟨C, i, none⟩ v).cell? ⟨C, i', none⟩ = w.cell? ⟨C, i', none⟩ := by
  obtain ⟨arr, h1, h2⟩ := hp
  have hb : (w.setCell ⟨C, i, none⟩ v).heap[C]? = some (.cells (arr.setIfInBounds i v) Payload.ety) := by
    simp [World.setCell, Array.getElem?_modify, h1]
  exact ⟨⟨_, hb, by simpa using h2⟩, fun i' hi => by simp [World.cell?, hb, h1, Array.getElem?_setIfInBounds_ne (Ne.symm hi)]⟩

/-- A step of a script: what nobody writes is looked at, or the worker's own cell is written. -/
theorem script_step (hAr : ∀ X g w, Anch X g w → g.status = .running) (h : (Now ok T FL FC ty Wg C n Q PV j0 Next Anch Sb B0 t0 W0 own rdS tag e X d0 a st sm J D kM fM gs w t)) {p : Nat} (hp : p < J) (h0 : j0 ≤ p) {g g' : Goroutine} {es : Array Event} (hg : gs[p + 1]? = some g) (hgo : stepG (prg T FC) false g w = .go g' w' es) (hm : MW C (p - j0) (rdS p) w w' es)
    (hst : (D p).base.stage = 7) (hx : 1 ≤ (D p).ex) {nd : Nd} (hs : Sit ok T FL FC ty Wg C n Q PV j0 rdS own p (D p).v 7 (D p).ex (D p).base.deaf nd g' w') (hacc : Acc (NdLt (prg T FL)) nd) (hlt : NdLt (prg T FL) nd (D p).nd) :
    (On ok T FL FC ty Wg C n Q PV j0 Next Anch Sb B0 t0 W0) (rank n J D tag e) J D kM fM t (runT (prg T FC) (crowd gs w sl) (p + 1)) := by
  have hb7 : (⟨7, 0, (D p).base.deaf⟩ : WD).stage = 7 := rfl
  have hmode : ∀ tag', (tag' = tag ∨ (tag = .blk ∧ tag' = .w3)) → ConcN.Mode J (upd (baseOf D) p ⟨7, 0, (D p).base.deaf⟩) tag' st sm := fun tag' ht => by
    have := h.mode.same (i := p) 0 (D p).base.deaf
    rw [show (baseOf D p).stage = 7 from hst] at this
    exact this.retag ht
  have hC0 := h.crew.ownC
  have hCW : C ≠ Wg := fun e => hC0.2 (e ▸ h.crew.ownW)
  rcases hm with ⟨d, rfl, hes⟩ | ⟨v, rfl, rfl⟩
  · have hsz : (w.at d).heap.size = w.heap.size := rfl
    refine h.step hAr (x := ⟨⟨7, 0, (D p).base.deaf⟩, (D p).ex, nd, (D p).v, (D p).rb, (D p).ro⟩) hp hg hgo (turn_same (w := w) (w' := w.at d) rfl rfl rfl rfl) h.crew.pay h.wg (fun _ _ => rfl) (by rw [own'_same hsz]; exact hs) (fun e he => ?_) (fun hlt => by omega)
      (deaf_plain (fun e he => by obtain ⟨a, rfl, _⟩ := hes e he; exact ⟨a, false, rfl⟩) _) (fun _ h => by simp at h) (fun _ h => by simp at h) (fun _ hs8 => ?_) hacc (fun tag' ht _ => hmode tag' ht) (.inr ⟨hst.symm, rfl, hlt⟩)
    · obtain ⟨a, rfl, ha⟩ := hes e he
      exact evK_read h0 ha (h.crew.rdO p _ ha).2.2.2.2
    · rw [own'_same hsz]
      exact h.crew.res p h0 hp (by simp only at hs8; omega)
  · have hA : Aside C w (w.setCell ⟨C, p - j0, none⟩ v) := aside_setCell w ⟨C, p - j0, none⟩ v
    have hsz := hA.size
    obtain ⟨q1, q2⟩ := setC h.crew.pay (p - j0) v
    refine h.step hAr (x := ⟨⟨7, 0, (D p).base.deaf⟩, (D p).ex, nd, (D p).v, (D p).rb, (D p).ro⟩) hp hg hgo (turn_aside hA (.inr rfl)) q1 (h.wg.of_block (hA.block Wg (Ne.symm hCW))) (fun i hi => q2 i (hi h0)) (by rw [own'_same hsz]; exact hs) (fun e he => ?_) (fun hlt => by omega)
      (deaf_plain (fun e he => by rw [Array.mem_singleton] at he; exact ⟨_, _, he⟩) _) (fun _ h => by simp at h) (fun _ h => by simp at h) (fun _ hs8 => ?_) hacc (fun tag' ht _ => hmode tag' ht) (.inr ⟨hst.symm, rfl, hlt⟩)
    · rw [Array.mem_singleton] at he
      subst he
      exact evK_own h0 (by rw [hsz]; exact payLow h.crew.pay)
    · rw [own'_same hsz]
      obtain ⟨x1, x2, x3⟩ := h.crew.res p h0 hp (by simp only at hs8; omega)
      exact ⟨x1, (hA.block _ (fun e => by rw [e] at x1; omega)).trans x2, x3⟩

/-! ### leaving -/
theorem quit_step (hAr : ∀ X g w, Anch X g w → g.status = .running) (h : (Now ok T FL FC ty Wg C n Q PV j0 Next Anch Sb B0 t0 W0 own rdS tag e X d0 a st sm J D kM fM gs w t)) {p : Nat} (hp : p < J) {g : Goroutine} (hg : gs[p + 1]? = some g) (hrun : g.status = .running) {m : Nat} (hq : QuitsD (prg T FC) m (D p).base.deaf g) (hst : (D p).base.stage = 1) (hx : (D p).ex = 0) (hnd : (D p).nd = .num 0 m)
    (hmk : ∀ {m d : Nat} {g : Goroutine} {w : World}, QuitsD (prg T FC) m d g → Sit ok T FL FC ty Wg C n Q PV j0 rdS own p (D p).v 1 0 d (.num 0 m) g w) :
    (On ok T FL FC ty Wg C n Q PV j0 Next Anch Sb B0 t0 W0) (rank n J D tag e) J D kM fM t (runT (prg T FC) (crowd gs w sl) (p + 1)) := by
  cases m with
  | zero => rw [hq.1] at hrun; cases hrun
  | succ q =>
    rcases hq with ⟨hf, _⟩ | ⟨_, g', es, hmute, hstep, hq⟩
    · rw [hf] at hrun; cases hrun
    · have hno : ∀ jx e, es[jx]? = some e → (MemAct.ofEvent e).touch? = none ∨ 0 < deafBehind (D p).base.deaf (es.extract 0 jx) := fun jx e he => .inl (touch_mute (hmute e (Array.mem_of_getElem? he)))
      have hmode : ∀ tag', (tag' = tag ∨ (tag = .blk ∧ tag' = .w3)) → ConcN.Mode J (upd (baseOf D) p ⟨1, 0, deafBehind (D p).base.deaf es⟩) tag' st sm := fun tag' ht => by
        have := h.mode.same (i := p) 0 (deafBehind (D p).base.deaf es)
        rw [show (baseOf D p).stage = 1 from hst] at this
        exact this.retag ht
      refine h.step hAr (x := ⟨⟨1, 0, deafBehind (D p).base.deaf es⟩, 0, .num 0 q, (D p).v, (D p).rb, (D p).ro⟩) hp hg (hstep w) (turn_same rfl rfl rfl rfl) h.crew.pay h.wg (fun _ _ => rfl) (by rw [own'_same rfl]; exact hmk hq) (fun e he => ?_) (fun _ => rfl) rfl
        (fun h0 _ => ?_) (fun h0 _ => h.crew.has p h0 hp (by omega)) (fun h0 _ => ?_) (acc_num _ _) (fun tag' ht _ => hmode tag' ht) (.inr ⟨hst.symm, hx.symm, by rw [hnd]; exact .near (Nat.lt_succ_self q)⟩)
      · refine ⟨fun y hy => ?_, fun hl => ?_, fun y hy => by rw [touch_mute (hmute e he)] at hy; cases hy⟩
        · rw [touch_mute (hmute e he)] at hy; cases hy
        · have := hmute e he
          obtain ⟨loc, wr, sy⟩ := e
          simp only at hl
          subst hl
          simp [Event.mute] at this
      · obtain ⟨r, hr⟩ := h.crew.rel p h0 hp (by omega)
        exact ⟨r, hr.book (Wg := Wg) (h.crew.deafW p hp) _ _ (fun e he => bk_of_mute (hmute e he)) hno⟩
      · rw [own'_same rfl]
        exact h.crew.res p h0 hp (by omega)

/-! ### beside the lone contract's tree -/
omit [Payload] in
theorem evK_im {p B : Nat} {b : Nat → Nat} {Fz : Fr} {R : Ren} (h0 : j0 ≤ p) (ho : Fz.out = false) (hR : ∀ x x', R x x' → (Fz x ∧ rdS p x') ∨ (¬ Fz x ∧ b x' = p + 1)) (hB : ∀ x x', R x x' → x' < B) {e : Event} (he : EvIm Fz R e) : EvK Sb Wg C j0 b rdS p B e := by
  obtain ⟨loc, wr, sy⟩ := e
  unfold EvIm at he
  have key : ∀ r x, R x r → (wr = true → ¬ Fz x) → ∀ l, blockOf l = some r → OwnF C j0 b (p + 1) l ∨ (RdF j0 rdS (p + 1) l ∧ wr = false) := by
    intro r x hx hw l hl
    rcases hR x r hx with ⟨h1, h2⟩ | ⟨h1, h2⟩
    · refine .inr ⟨⟨by omega, r, hl, by simpa using h2⟩, ?_⟩
      cases wr with
      | false => rfl
      | true => exact absurd h1 (hw rfl)
    · exact .inl ⟨by omega, .inl ⟨r, hl, h2⟩⟩
  cases loc with
  | cell a =>
    obtain ⟨hs, x, hx, hw⟩ := he
    simp only at hs
    subst hs
    refine ⟨fun y hy => ?_, by simp, fun y hy => ?_⟩ <;> rw [ofEvent_cell] at hy <;> simp only [MemAct.touch?, Option.some.injEq] at hy <;> subst hy
    case refine_2 => exact hB _ _ hx
    exact ⟨by omega, .inr ⟨rfl, rfl, key _ _ hx hw _ rfl⟩⟩
  | obj r =>
    obtain ⟨hs, x, hx, hw⟩ := he
    simp only at hs
    subst hs
    have eo : MemAct.ofEvent ⟨.obj r, wr, false⟩ = .access ⟨.obj r, wr, false⟩ := by cases wr <;> rfl
    refine ⟨fun y hy => ?_, by simp, fun y hy => ?_⟩ <;> rw [eo] at hy <;> simp only [MemAct.touch?, Option.some.injEq] at hy <;> subst hy
    case refine_2 => exact hB _ _ hx
    exact ⟨by omega, .inr ⟨rfl, rfl, key _ _ hx hw _ rfl⟩⟩
  | output => rw [ho] at he; cases he
  | goroutines => exact he.elim
  | mark m =>
    cases m with
    | noRoom => exact ⟨fun x hx => (by simp [MemAct.ofEvent, MemAct.touch?] at hx), by simp, fun x hx => (by simp [MemAct.ofEvent, MemAct.touch?] at hx)⟩
    | extern f => exact ⟨fun x hx => (by simp [MemAct.ofEvent, MemAct.touch?] at hx), by simp, fun x hx => (by simp [MemAct.ofEvent, MemAct.touch?] at hx)⟩
    | _ => exact he.elim
omit [Payload] in
theorem deaf_im {Fz : Fr} {R : Ren} {es : Array Event} (h : ∀ e ∈ es, EvIm Fz R e) (d : Nat) : deafBehind d es = d :=
  deafBehind_idle (fun e he => by
    have := h e he
    unfold EvIm at this
    constructor <;> (intro hl; rw [hl] at this; exact this)) d

set_option maxHeartbeats 1600000 in
theorem tree_step (hAr : ∀ X g w, Anch X g w → g.status = .running) (hP : ∀ Fz : Fr, Fz.lim = none → Fz.out = false → Progs ok T Fz FL FC) (hI : ∀ f, ok.ok f = true → T.inits.idxOf? f = none) (hord : ∀ f, ok.ok f = true → ok.rd f = true)
    (h : (Now ok T FL FC ty Wg C n Q PV j0 Next Anch Sb B0 t0 W0 own rdS tag e X d0 a st sm J D kM fM gs w t)) {p : Nat} (hp : p < J) (h0 : j0 ≤ p) {g : Goroutine} (hg : gs[p + 1]? = some g) {fr : Frame} {cs : List Frame} {w0 : World} (hs : SimS ok T FL FC ty Wg C n Q PV (p - j0) (rdS p) (fun b => own b = p + 1) fr cs w0 g w)
    (hst : (D p).base.stage = 7) (hde : (D p).base.deaf = 0) (hx : (D p).ex = 3 ∨ ((D p).ex = 2 ∧ (D p).nd = .node fr cs w0)) :
    (On ok T FL FC ty Wg C n Q PV j0 Next Anch Sb B0 t0 W0) (rank n J D tag e) J D kM fM t (runT (prg T FC) (crowd gs w sl) (p + 1)) := by
  obtain ⟨Fz, R, fr', cs', c0, cb, W, rfl, hM, hfr, hcs, hnear, hl, ho, hR, hW, hend⟩ := hs
  have PF := hP Fz hl ho
  have hC0 := h.crew.ownC
  have hW0 := (h.crew.ownS Wg h.crew.ownW).1
  have hmode : ∀ tag', (tag' = tag ∨ (tag = .blk ∧ tag' = .w3)) → ConcN.Mode J (upd (baseOf D) p ⟨7, 0, 0⟩) tag' st sm := fun tag' ht => by
    have := h.mode.same (i := p) 0 0
    rw [show (baseOf D p).stage = 7 from hst] at this
    exact this.retag ht
  cases hM with
  | stop hv =>
    have hcs0 : cs' = [] := by cases hcs; rfl
    subst hcs0
    obtain ⟨v, ⟨hm, hd, hk, fn, hf, hr⟩, hq⟩ := hv w.tape w.drawn
    have h1 := results_sim (Fz := Fz) (FL := FL) (FC := FC) (fn := fn) hfr.tmps R (Le.refl R) (on w0 w.tape w.drawn) w hnear #[]
    rw [hr] at h1
    obtain ⟨R₂, v', w₁', new, e1, hx2, hw2, hv2, hev⟩ := h1 (fun m h => by rw [hl] at h; cases h)
    have e2 : (results fn fr'.tmps).run (prg T FC) w = .ok v' w₁' := by rw [← Sem.runT_fst _ _ _ #[], e1]
    obtain rfl := (Still.results fn fr'.tmps _ _ _ _ e2).symm
    have hle : ∀ b b', R₂ b b' → R b b' := by
      intro b b' x
      rcases hx2.new b b' x with x1 | ⟨x1, x2, -⟩
      · exact x1
      · have := hw2.below x
        omega
    have hmode' : fr'.mode = .returning := by
      have := hfr.mode
      rw [hm] at this
      revert this
      generalize fr'.mode = x
      intro h
      cases h
      rfl
    have hdef : fr'.defers = [] := by
      have := hfr.defers
      rw [hd] at this
      revert this
      generalize fr'.defers = x
      intro h
      cases h
      rfl
    have hf' : (prg T FC).funcs[fr'.fn]? = some fn := by
      obtain ⟨g, g', f1, f2, f3⟩ := PF.2 fr.fn hfr.okf
      have : g' = g := by
        rcases f3 with ⟨_, _, _, _, _, f3⟩ | ⟨_, f3, _⟩
        · exact (f3 hfr.ord).1
        · exact f3
      subst this
      rw [show (prg T FL).funcs[fr.fn]? = some g' from f1] at hf
      cases hf
      rw [hfr.fn]
      exact f2
    obtain ⟨rb, ro, y1, y2, y3, k, m, y4⟩ := hend (fun b => own b = p + 1) R _ v v' w hq (hv2.mono hle) hnear hR ⟨_, _, h.wg⟩ h.crew.pay hW
    have hgo : stepG (prg T FC) false (G fr' ([] ++ c0 :: cb)) w = .go (G (c0.finish v') cb) w (seen (prg T FC) fr'.fn new) := by
      rw [List.nil_append, stepG_unw (by rw [hmode']; intro h; cases h)]
      unfold unwind
      simp only [hdef, hmode', hf', e1]
      unfold doReturn
      simp only [hfr.kind']
      simp [GStep.after, G]
    have hevs : ∀ e ∈ seen (prg T FC) fr'.fn new, EvIm Fz R₂ e := fun e he => hev e (by simpa using seen_sub he)
    refine h.step hAr (x := ⟨⟨7, 0, 0⟩, 1, .num k m, v', rb, ro⟩) hp hg hgo (turn_same rfl rfl rfl rfl) h.crew.pay h.wg (fun _ _ => rfl) (by rw [own'_same rfl]; exact .post y4) (fun e he => evK_im h0 ho (fun x x' y => by rw [own'_same rfl]; exact hR x x' (hle x x' y)) (fun x x' y => hw2.below y) (hevs e he)) (fun hlt => by omega)
      (by rw [hde]; exact deaf_im hevs 0) (fun _ h => by simp at h) (fun _ h => by simp at h) (fun _ _ => by rw [own'_same rfl]; exact ⟨y1, y2, y3⟩) (acc_num _ _) (fun tag' ht _ => hmode tag' ht) (.inl ⟨by simp only; omega, by simp [cnt, hst]⟩)
  | step f₁ c₁ w₁ es hs hk =>
    obtain ⟨R₁, a', w1', es', hgo, hgr, hxx, hw1, hev⟩ := sim_step (bL := [junk]) (bC := c0 :: cb) (m' := false) PF hI hfr hcs hnear (hs w.tape w.drawn) (fun m h => by rw [hl] at h; cases h) rfl rfl (by simp [G])
    obtain ⟨fr₂, cs₂, fr₂', cs₂', eg, rfl, htop, hcs2⟩ := hgr
    obtain ⟨rfl, rfl⟩ := cancel eg.symm
    have hone : Down (prg T FL) fr cs w0 (f₁ w.tape w.drawn) (c₁ w.tape w.drawn) (w₁ w.tape w.drawn) := .one _ _ (hs w.tape w.drawn)
    have hMn := hk w.tape w.drawn
    generalize f₁ w.tape w.drawn = F0 at htop hone hMn
    generalize c₁ w.tape w.drawn = D0 at htop hone hMn hcs2
    generalize w₁ w.tape w.drawn = V0 at hone hMn hw1 hxx
    have hfr2 : FRel ok T R₁ F0 fr₂' := by
      cases htop with
      | ord hf => exact hf
      | sp f _ hf hrd _ => rw [hord f hf] at hrd; cases hrd
    have stands : ∀ b', b' < w.heap.size → own b' ≠ p + 1 → w1'.heap[b']? = w.heap[b']? := fun b' hb hne => hxx.keep b' hb fun b x => by
      rcases hR b b' x with y | y
      · exact y.1
      · exact absurd y.2 hne
    have hT : Turn Wg C own (p + 1) w w1' := ⟨hxx.size, fun b hb _ _ hne => stands b hb hne, hxx.os, hxx.output, hxx.tape⟩
    have hCb : w1'.heap[C]? = w.heap[C]? := stands C (payLow h.crew.pay) (by omega)
    have hWb : w1'.heap[Wg]? = w.heap[Wg]? := stands Wg (h.crew.ownS Wg h.crew.ownW).2 (by omega)
    have hpay : PayAt C n w1' := by obtain ⟨cs, q1, q2⟩ := h.crew.pay; exact ⟨cs, hCb.trans q1, q2⟩
    have hR1 : ∀ b b', R₁ b b' → (Fz b ∧ rdS p b') ∨ (¬ Fz b ∧ own' own (p + 1) w w1' b' = p + 1) := by
      intro b b' x
      have hlow := hw1.below x
      rcases hxx.new b b' x with y | ⟨y1, y2, -⟩
      · rcases hR b b' y with z | z
        · exact .inl z
        · exact .inr ⟨z.1, by rw [own'_low (h.crew.low (by omega))]; exact z.2⟩
      · refine .inr ⟨fun hz => ?_, by unfold own'; rw [if_pos ⟨y2, hlow⟩]⟩
        obtain ⟨c, e, f, hc, -⟩ := hnear.fz b hz
        obtain ⟨hlt, -⟩ := Array.getElem?_eq_some_iff.1 hc
        have : (on w0 w.tape w.drawn).heap.size ≤ b := y1
        omega
    have hsim : SimS ok T FL FC ty Wg C n Q PV (p - j0) (rdS p) (fun b => own' own (p + 1) w w1' b = p + 1) F0 D0 V0 (G fr₂' (cs₂' ++ c0 :: cb)) w1' :=
      ⟨Fz, R₁, fr₂', cs₂', c0, cb, W, rfl, hMn, hfr2, hcs2, hw1.near, hl, ho, hR1, fun b hb => by
        obtain ⟨_, q1, q2, q3, q4⟩ := h.crew.rdO p b hb
        exact (stands b q4 (by omega)).trans (hW b hb), hend⟩
    refine h.step hAr (x := ⟨⟨7, 0, 0⟩, 2, .node F0 D0 V0, (D p).v, (D p).rb, (D p).ro⟩) hp hg hgo hT hpay (h.wg.of_block hWb) (fun i _ => cell_of_block hCb i) (.sim hsim) (fun e he => evK_im h0 ho hR1 (fun x x' y => hw1.below y) (hev e he)) (fun hlt => by omega)
      (by rw [hde]; exact deaf_im hev 0) (fun _ h => by simp at h) (fun _ h => by simp at h) (fun _ h => by simp at h) (acc_node hMn) (fun tag' ht _ => hmode tag' ht) ?_
    rcases hx with hx | ⟨hx, hnd⟩
    · exact .inl ⟨by simp only; omega, by simp [cnt, hst]⟩
    · exact .inr ⟨hst.symm, hx.symm, by rw [hnd]; exact .down hone⟩
end
end Go.Proofs.Ytgkakgibgfehaaa.Ph
