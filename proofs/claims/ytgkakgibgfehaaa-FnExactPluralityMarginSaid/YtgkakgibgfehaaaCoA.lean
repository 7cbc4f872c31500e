/-
  THE LONE SIDE OF A RELATION, RELATED TO ITSELF: so a lone contract makes a tree of steps there ('near_self').
-/
import Derived.Test.YtgkakgibgfehaaaSh14
namespace Go.Proofs.Ytgkakgibgfehaaa.Sim
open Go.Conc
section
variable {ok1 ok2 : Cx} {T : Tables}
theorem flat_congr (h : ok1.ok = ok2.ok) : ∀ n, flat ok1 n = flat ok2 n := by
  intro n
  induction n with
  | zero => funext v; rfl
  | succ n ih => funext v; simp only [flat, ih, h]
theorem okOperand_congr (h : ok1.ok = ok2.ok) : okOperand ok1 = okOperand ok2 := by
  funext x
  cases x <;> simp only [okOperand, flat_congr h, h]
theorem okZero_congr (h : ok1.ok = ok2.ok) : okZero ok1 T = okZero ok2 T := by
  funext x
  simp only [okZero, flat_congr h]
theorem okElem_congr (h : ok1.ok = ok2.ok) : okElem ok1 T = okElem ok2 T := by
  funext x
  simp only [okElem, okZero_congr h]
theorem okOp_congr (h : ok1.ok = ok2.ok) (hp : ok1.pan = ok2.pan) : okOp ok1 T = okOp ok2 T := by
  funext x
  cases x <;> simp only [okOp, okOperand_congr h, okZero_congr h, okElem_congr h, h, hp]
theorem okCode_congr (h : ok1.ok = ok2.ok) (hp : ok1.pan = ok2.pan) (c : Code) : okCode ok1 T c = okCode ok2 T c := by
  induction c <;> simp only [okCode, okOp_congr h hp, okOperand_congr h, *]
end
/-- The lone side alone. -/
def dg (R : Ren) : Ren := fun b b' => b' = b ∧ ∃ c, R b c
section
variable {ok ok1 : Cx} {T : Tables} {R : Ren}
theorem ARel.left (h0 : ∀ b, ok1.sh b = 0) {a a' : Addr} (h : ARel ok R a a') : ARel ok1 (dg R) a a := ⟨⟨rfl, _, h.1⟩, by rw [h0]; rfl, rfl⟩
theorem VRel.left (h : ok1.ok = ok.ok) (h0 : ∀ b, ok1.sh b = 0) {v v' : Value} (k : VRel ok R v v') : VRel ok1 (dg R) v v := by
  have rows : ∀ {x x' : Array Value}, x'.size = x.size → (∀ (i : Nat) v v', x[i]? = some v → x'[i]? = some v' → VRel ok1 (dg R) v v) → ∀ (i : Nat) v v', x[i]? = some v → x[i]? = some v' → VRel ok1 (dg R) v v' := by
    intro x x' hs hi i v v' h1 h2
    rw [h1] at h2
    cases h2
    have hlt : i < x'.size := by have := (Array.getElem?_eq_some_iff.1 h1).1; omega
    exact hi i v x'[i] h1 (Array.getElem?_eq_getElem hlt)
  induction k with
  | bool | int | string | nilPtr | nilSlice | nilMap | nilFunc | nilIface => constructor
  | ptr k => exact .ptr (k.left h0)
  | slice n c k => exact .slice n c (k.left h0)
  | map k => exact .map ⟨rfl, _, k⟩
  | func k s1 _ s2 _ i1 i2 =>
    refine .func ?_ rfl (rows s1 i1) rfl (rows s2 i2)
    cases k with
    | func f k => exact .func f (by rw [h]; exact k)
    | yield k => exact .yield ⟨rfl, _, k⟩
  | iface t _ ih => exact .iface t ih
  | agg s _ ih => exact .agg rfl (rows s ih)
  | tuple s _ ih => exact .tuple rfl (rows s ih)
theorem Rows.left (h : ok1.ok = ok.ok) (h0 : ∀ b, ok1.sh b = 0) {c c' : Array Value} (k : Rows ok R c c') : Rows ok1 (dg R) c c := by
  refine ⟨rfl, fun i v v' h1 h2 => ?_⟩
  rw [h1] at h2
  cases h2
  have hlt : i < c'.size := by have := (Array.getElem?_eq_some_iff.1 h1).1; have := k.1; omega
  exact (k.2 i v c'[i] h1 (Array.getElem?_eq_getElem hlt)).left h h0
theorem LoopRel.left (h : ok1.ok = ok.ok) (hp : ok1.pan = ok.pan) (h0 : ∀ b, ok1.sh b = 0) (hr : ∀ f, ok1.rd f = true) {l l' : Loop} (k : LoopRel ok T R l l') : LoopRel ok1 T (dg R) l l :=
  ⟨rfl, rfl, fun c e => by rw [okCode_congr h hp]; exact k.okp c e, rfl, by rw [h]; exact k.okf, hr _, k.tmps.left h h0, rfl, rfl, by rw [okCode_congr h hp]; exact k.oka, rfl, by rw [okCode_congr h hp]; exact k.okb, ⟨rfl, _, k.defers⟩⟩
theorem ObjRel.left (h : ok1.ok = ok.ok) (hp : ok1.pan = ok.pan) (h0 : ∀ b, ok1.sh b = 0) (hr : ∀ f, ok1.rd f = true) {o o' : Obj} (k : ObjRel ok T R o o') : ObjRel ok1 T (dg R) o o := by
  cases k with
  | cells e f r => exact .cells e f (r.left h h0)
  | loop k => exact .loop (k.left h hp h0 hr)
  | number l k => exact .number l (k.left h0)
  | deferred b => exact .deferred b
/-- The lone world, related to itself. -/
theorem Near.self {w w' : World} {Fz : Fr} (h : ok1.ok = ok.ok) (hp : ok1.pan = ok.pan) (h0 : ∀ b, ok1.sh b = 0) (hr : ∀ f, ok1.rd f = true) (k : Near ok T Fz R w w') : WRel ok1 T (noFz none) (dg R) w w := by
  refine ⟨?_, ?_, ?_, fun b _ => h0 b, fun b hb => hb.elim, ?_, ⟨k.big.1, k.big.1⟩, rfl, fun _ _ => rfl⟩
  · rintro b b' c' ⟨rfl, -⟩ ⟨rfl, -⟩; rfl
  · rintro b c b' ⟨rfl, -⟩ ⟨h, -⟩; exact .inl h
  · rintro b b' ⟨e, c, x⟩
    rw [e]
    obtain ⟨o, o', h1, h2, h3⟩ := k.obj _ _ x
    have h1' : w.heap[b]? = some o := h1
    rcases h3 with ⟨-, -, h3⟩ | ⟨-, c0, e0, fr0, c1, e1, fr1, rfl, -, -, h3⟩
    · exact ⟨o, o, h1', h1', .inl ⟨fun x => x, h0 _, h3.left h hp h0 hr⟩⟩
    · refine ⟨_, _, h1', h1', .inl ⟨fun x => x, h0 _, .cells e0 fr0 ⟨rfl, fun i v v' x y => ?_⟩⟩⟩
      rw [x] at y
      cases y
      obtain ⟨v', -, hv⟩ := h3 i v x
      exact hv.left h h0
  · rintro b b' ⟨rfl, c, x⟩
    exact ⟨(k.glob _ _ x).1, .inl (k.glob _ _ x).1⟩
theorem dg_diag : Diag (dg R) := fun _ _ h => h.1
end
end Go.Proofs.Ytgkakgibgfehaaa.Sim
