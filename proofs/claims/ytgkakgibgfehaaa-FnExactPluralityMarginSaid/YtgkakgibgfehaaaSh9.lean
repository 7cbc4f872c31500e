/-
  TWO RUNS THAT DIFFER IN THE NUMBERS OF THEIR BLOCKS. One run is alone; the other has company, which makes blocks in between. A relation R of block numbers says which block of the one is which block of the other. Here: values, blocks and worlds that are related; what a computation must do so that its two runs stay related ('Sim'), and how that goes through its parts. No condition but what each theorem says.
  Which code may stand in the functions that are spoken of; blocks and worlds that are related; 'Sim': a computation's lone run and its run in company stay related, whatever blocks the company made in between; how that goes through a sequence of computations and through the primitive ones.
  'Sim' (SimB) of the computations that operations are made of: new blocks, loads and stores of variables, types, panics of the run-time system.
-/
import Derived.Conc.Own
import Derived.Laws.Sem
import Derived.Conc.Events
namespace Go.Proofs.Ytgkakgibgfehaaa.Sim

abbrev Ren := Nat → Nat → Prop
def Le (R R₁ : Ren) : Prop := ∀ b b', R b b' → R₁ b b'
theorem Le.refl (R : Ren) : Le R R := fun _ _ h => h
theorem Le.trans {R R₁ R₂ : Ren} (h : Le R R₁) (k : Le R₁ R₂) : Le R R₂ := fun b b' x => k b b' (h b b' x)

/-- Lists, element by element. -/
inductive LRel {α β : Type} (A : α → β → Prop) : List α → List β → Prop
  | nil : LRel A [] []
  | cons {a : α} {b : β} {l : List α} {l' : List β} : A a b → LRel A l l' → LRel A (a :: l) (b :: l')
theorem LRel.imp {α β : Type} {A B : α → β → Prop} (h : ∀ a b, A a b → B a b) {l : List α} {l' : List β} (k : LRel A l l') : LRel B l l' := by
  induction k with
  | nil => exact .nil
  | cons a _ ih => exact .cons (h _ _ a) ih
theorem LRel.append {α β : Type} {A : α → β → Prop} {l k : List α} {l' k' : List β} (h : LRel A l l') (h' : LRel A k k') : LRel A (l ++ k) (l' ++ k') := by
  induction h with
  | nil => exact h'
  | cons a _ ih => exact .cons a ih

/-- Which functions may be called, which of them have no body, which ones' bodies are the same in both programs; by how much a block of the lone run lies behind the block that it stands for; whether there may be a 'panic'. -/
structure Cx where
  ok : Nat → Bool
  ext : Nat → Bool
  rd : Nat → Bool
  sh : Nat → Nat
  pan : Bool

/-- Which blocks of the lone run are frozen for good; how many draws are spoken of; whether a look at the settings (of 'panic(nil)') may be listed. -/
structure Fr where
  on : Nat → Prop
  lim : Option Nat
  out : Bool
instance : CoeFun Fr fun _ => Nat → Prop := ⟨Fr.on⟩
def Fr.lt (Fz : Fr) (n : Nat) : Prop := ∀ m, Fz.lim = some m → n ≤ m
theorem Fr.lt.le {Fz : Fr} {n m : Nat} (h : Fz.lt m) (k : n ≤ m) : Fz.lt n := fun x e => Nat.le_trans k (h x e)

/-- Places. -/
def ARel (ok : Cx) (R : Ren) (a a' : Addr) : Prop := R a.block a'.block ∧ a'.off = a.off + ok.sh a.block ∧ a'.spot = a.spot
theorem ARel.mono {ok : Cx} {R R₁ : Ren} (h : Le R R₁) {a a' : Addr} (k : ARel ok R a a') : ARel ok R₁ a a' := ⟨h _ _ k.1, k.2⟩
theorem ARel.add {ok : Cx} {R : Ren} {a a' : Addr} (k : ARel ok R a a') (n : Nat) : ARel ok R (a.add n) (a'.add n) := by
  obtain ⟨h1, h2, h3⟩ := k
  unfold Addr.add
  split
  · exact ⟨h1, h2, h3⟩
  · exact ⟨h1, by show a'.off + n = a.off + n + ok.sh a.block; omega, rfl⟩

inductive FnRel (ok : Cx) (R : Ren) : Fn → Fn → Prop
  | func (f : Nat) : ok.ok f = true → FnRel ok R (.func f) (.func f)
  | yield {l l' : Nat} : R l l' → FnRel ok R (.yield l) (.yield l')

/-- Values. -/
inductive VRel (ok : Cx) (R : Ren) : Value → Value → Prop
  | bool (b : Bool) : VRel ok R (.bool b) (.bool b)
  | int (k : IntKind) (n : Int) : VRel ok R (.int k n) (.int k n)
  | string (s : ByteArray) : VRel ok R (.string s) (.string s)
  | nilPtr : VRel ok R (.pointer none) (.pointer none)
  | ptr {a a' : Addr} : ARel ok R a a' → VRel ok R (.pointer (some a)) (.pointer (some a'))
  | nilSlice (n c : Nat) : VRel ok R (.slice none n c) (.slice none n c)
  | slice {a a' : Addr} (n c : Nat) : ARel ok R a a' → VRel ok R (.slice (some a) n c) (.slice (some a') n c)
  | nilMap : VRel ok R (.map none) (.map none)
  | map {r r' : Nat} : R r r' → VRel ok R (.map (some r)) (.map (some r'))
  | func {fn fn' : Fn} {x x' c c' : Array Value} : FnRel ok R fn fn' → x'.size = x.size → (∀ (i : Nat) v v', x[i]? = some v → x'[i]? = some v' → VRel ok R v v') →
      c'.size = c.size → (∀ (i : Nat) v v', c[i]? = some v → c'[i]? = some v' → VRel ok R v v') → VRel ok R (.func fn x c) (.func fn' x' c')
  | nilFunc : VRel ok R .nilFunc .nilFunc
  | iface (t : TypeId) {v v' : Value} : VRel ok R v v' → VRel ok R (.iface t v) (.iface t v')
  | nilIface : VRel ok R .nilIface .nilIface
  | agg {c c' : Array Value} : c'.size = c.size → (∀ (i : Nat) v v', c[i]? = some v → c'[i]? = some v' → VRel ok R v v') → VRel ok R (.agg c) (.agg c')
  | tuple {c c' : Array Value} : c'.size = c.size → (∀ (i : Nat) v v', c[i]? = some v → c'[i]? = some v' → VRel ok R v v') → VRel ok R (.tuple c) (.tuple c')

/-- Rows of values. -/
def Rows (ok : Cx) (R : Ren) (c c' : Array Value) : Prop := c'.size = c.size ∧ ∀ (i : Nat) v v', c[i]? = some v → c'[i]? = some v' → VRel ok R v v'

theorem VRel.mono {ok : Cx} {R R₁ : Ren} (h : Le R R₁) {v v' : Value} (k : VRel ok R v v') : VRel ok R₁ v v' := by
  induction k with
  | bool | int | string | nilPtr | nilSlice | nilMap | nilFunc | nilIface => constructor
  | ptr k => exact .ptr (k.mono h)
  | slice n c k => exact .slice n c (k.mono h)
  | map k => exact .map (h _ _ k)
  | func k s1 _ s2 _ i1 i2 =>
    refine .func ?_ s1 i1 s2 i2
    cases k with
    | func f k => exact .func f k
    | yield k => exact .yield (h _ _ k)
  | iface t _ ih => exact .iface t ih
  | agg s _ ih => exact .agg s ih
  | tuple s _ ih => exact .tuple s ih

theorem Rows.mono {ok : Cx} {R R₁ : Ren} (h : Le R R₁) {c c' : Array Value} (k : Rows ok R c c') : Rows ok R₁ c c' := ⟨k.1, fun i v v' x y => (k.2 i v v' x y).mono h⟩
theorem VRel.undef {ok : Cx} {R : Ren} : VRel ok R undef undef := .tuple rfl (by simp)
theorem VRel.aggR {ok : Cx} {R : Ren} {c c' : Array Value} (h : Rows ok R c c') : VRel ok R (.agg c) (.agg c') := .agg h.1 h.2
theorem VRel.tupleR {ok : Cx} {R : Ren} {c c' : Array Value} (h : Rows ok R c c') : VRel ok R (.tuple c) (.tuple c') := .tuple h.1 h.2
theorem VRel.funcR {ok : Cx} {R : Ren} {fn fn' : Fn} {x x' c c' : Array Value} (h : FnRel ok R fn fn') (h1 : Rows ok R x x') (h2 : Rows ok R c c') : VRel ok R (.func fn x c) (.func fn' x' c') := .func h h1.1 h1.2 h2.1 h2.2
section
variable {ok : Cx} {R : Ren} {c c' d d' : Array Value}
theorem Rows.empty : Rows ok R #[] #[] := ⟨rfl, fun i v v' h => by simp at h⟩
theorem Rows.get (h : Rows ok R c c') {i : Nat} {v : Value} (hv : c[i]? = some v) : ∃ v', c'[i]? = some v' ∧ VRel ok R v v' := by
  obtain ⟨hlt, _⟩ := Array.getElem?_eq_some_iff.1 hv
  have hlt' : i < c'.size := by rw [h.1]; exact hlt
  exact ⟨c'[i], by simp [hlt'], h.2 i v _ hv (by simp [hlt'])⟩
theorem Rows.none (h : Rows ok R c c') {i : Nat} (hv : c[i]? = none) : c'[i]? = none := by
  rw [Array.getElem?_eq_none_iff] at hv ⊢
  rw [h.1]; exact hv
theorem Rows.push (h : Rows ok R c c') {v v' : Value} (hv : VRel ok R v v') : Rows ok R (c.push v) (c'.push v') := by
  refine ⟨by simp [h.1], fun i x x' hx hx' => ?_⟩
  rw [Array.getElem?_push] at hx hx'
  rw [h.1] at hx'
  split at hx
  · rename_i e; rw [if_pos e] at hx'; cases hx; cases hx'; exact hv
  · rename_i e; rw [if_neg e] at hx'; exact h.2 i x x' hx hx'
theorem Rows.append (h : Rows ok R c c') (k : Rows ok R d d') : Rows ok R (c ++ d) (c' ++ d') := by
  refine ⟨by simp [h.1, k.1], fun i x x' hx hx' => ?_⟩
  rcases Nat.lt_or_ge i c.size with hlt | hge
  · rw [Array.getElem?_append_left hlt] at hx
    rw [Array.getElem?_append_left (by rw [h.1]; exact hlt)] at hx'
    exact h.2 i x x' hx hx'
  · rw [Array.getElem?_append_right hge] at hx
    rw [Array.getElem?_append_right (by rw [h.1]; exact hge), h.1] at hx'
    exact k.2 _ x x' hx hx'
theorem Rows.set (h : Rows ok R c c') (i : Nat) {v v' : Value} (hv : VRel ok R v v') : Rows ok R (c.setIfInBounds i v) (c'.setIfInBounds i v') := by
  refine ⟨by simp [h.1], fun j x x' hx hx' => ?_⟩
  rw [Array.getElem?_setIfInBounds] at hx hx'
  rw [h.1] at hx'
  by_cases e : i = j
  · rw [if_pos e] at hx hx'
    split at hx
    · rename_i hl
      rw [if_pos hl] at hx'
      cases hx; cases hx'; exact hv
    · cases hx
  · rw [if_neg e] at hx hx'; exact h.2 j x x' hx hx'
theorem Rows.extract (h : Rows ok R c c') (i j : Nat) : Rows ok R (c.extract i j) (c'.extract i j) := by
  refine ⟨by simp [h.1], fun k x x' hx hx' => ?_⟩
  rw [Array.getElem?_extract] at hx hx'
  rw [h.1] at hx'
  split at hx
  · rename_i hl
    rw [if_pos hl] at hx'
    exact h.2 _ x x' hx hx'
  · cases hx
theorem Rows.one {v v' : Value} (hv : VRel ok R v v') : Rows ok R #[v] #[v'] := by
  have := (Rows.empty (ok := ok) (R := R)).push hv
  simpa using this
theorem Rows.getD (h : Rows ok R c c') (i : Nat) : VRel ok R (c.getD i Go.undef) (c'.getD i Go.undef) := by
  rw [Array.getD_eq_getD_getElem?, Array.getD_eq_getD_getElem?]
  cases hx : c[i]? with
  | none => rw [h.none hx]; exact .undef
  | some v => obtain ⟨v', hv', k⟩ := h.get hx; rw [hv']; exact k
theorem Rows.replicate (n : Nat) {v v' : Value} (hv : VRel ok R v v') : Rows ok R (Array.replicate n v) (Array.replicate n v') := by
  refine ⟨by simp, fun i x x' hx hx' => ?_⟩
  rw [Array.getElem?_replicate] at hx hx'
  split at hx
  · rename_i hl; rw [if_pos hl] at hx'; cases hx; cases hx'; exact hv
  · cases hx
theorem Rows.toList (h : Rows ok R c c') : LRel (VRel ok R) c.toList c'.toList := by
  obtain ⟨l⟩ := c
  obtain ⟨l'⟩ := c'
  obtain ⟨hs, h⟩ := h
  simp only [List.size_toArray, List.getElem?_toArray] at hs h
  induction l generalizing l' with
  | nil => cases l' with
    | nil => exact .nil
    | cons => simp at hs
  | cons a l ih => cases l' with
    | nil => simp at hs
    | cons a' l' => exact .cons (h 0 a a' rfl rfl) (ih l' (by simpa using hs) fun i v v' x y => h (i + 1) v v' (by simpa using x) (by simpa using y))
theorem Rows.cells {v v' : Value} (h : VRel ok R v v') : Rows ok R v.cells v'.cells := by
  cases h with
  | agg s k => exact ⟨s, k⟩
  | bool => exact .one (.bool _)
  | int => exact .one (.int _ _)
  | string => exact .one (.string _)
  | nilPtr => exact .one .nilPtr
  | ptr k => exact .one (.ptr k)
  | nilSlice => exact .one (.nilSlice _ _)
  | slice _ _ k => exact .one (.slice _ _ k)
  | nilMap => exact .one .nilMap
  | map k => exact .one (.map k)
  | func k a b x y => exact .one (.func k a b x y)
  | nilFunc => exact .one .nilFunc
  | iface t k => exact .one (.iface t k)
  | nilIface => exact .one .nilIface
  | tuple s k => exact .one (.tuple s k)
end

/-- A value in which no place of memory stands. -/
def flat (ok : Cx) : Nat → Value → Bool
  | 0, _ => false
  | n + 1, v => match v with
    | .bool _ | .int .. | .string _ | .pointer none | .slice none .. | .map none | .nilFunc | .nilIface => true
    | .func (.func f) x c => ok.ok f && x.all (flat ok n) && c.all (flat ok n)
    | .iface _ v => flat ok n v
    | .agg c | .tuple c => c.all (flat ok n)
    | _ => false

theorem flat_rel {ok : Cx} (R : Ren) : ∀ (n : Nat) (v : Value), flat ok n v = true → VRel ok R v v := by
  intro n
  induction n with
  | zero => intro v h; cases h
  | succ n ih =>
    have rows : ∀ c : Array Value, c.all (flat ok n) = true → Rows ok R c c := by
      intro c hc
      refine ⟨rfl, fun i v v' h h' => ?_⟩
      rw [h] at h'; cases h'
      obtain ⟨hi, rfl⟩ := Array.getElem?_eq_some_iff.1 h
      exact ih _ (Array.all_eq_true.1 hc i hi)
    intro v h
    cases v with
    | bool b => exact .bool b
    | int k n => exact .int k n
    | float k n => cases h
    | complex k m n => cases h
    | string s => exact .string s
    | pointer a => cases a with
      | none => exact .nilPtr
      | some a => cases h
    | slice a n c => cases a with
      | none => exact .nilSlice n c
      | some a => cases h
    | map r => cases r with
      | none => exact .nilMap
      | some r => cases h
    | chan r => cases h
    | func fn x c =>
      cases fn with
      | func f =>
        simp only [flat, Bool.and_eq_true] at h
        exact .funcR (.func f h.1.1) (rows x h.1.2) (rows c h.2)
      | _ => cases h
    | nilFunc => exact .nilFunc
    | iface t v => exact .iface t (ih v h)
    | nilIface => exact .nilIface
    | agg c => exact .aggR (rows c h)
    | tuple c => exact .tupleR (rows c h)

end Go.Proofs.Ytgkakgibgfehaaa.Sim

namespace Go.Proofs.Ytgkakgibgfehaaa.Sim

/-! ### the code -/
section
variable (ok : Cx) (T : Tables)
def okOperand : Operand → Bool
  | .tmp _ => true
  | .const v => flat ok 12 v
  | .global _ => false
  | .func f => ok.ok f
def okZero (t : TypeId) : Bool := match T.info? t with | some i => i.zero.all (flat ok 12) | none => true
def okElem (t : TypeId) : Bool := match ({ toTables := T, funcs := #[] } : Program).underlying t with | some (.slice e) => okZero ok T e | _ => true
/-- An 'append' that is no 'append(x, make(..)...)'. -/
def okApp (ts : Array TypeId) : Bool := match ts[1]? with | some t => (match ({ toTables := T, funcs := #[] } : Program).underlying t with | some (.int _) => false | _ => true) | none => true
/-- A field that holds something. -/
def okField (s : TypeId) (f : Nat) : Bool :=
  match ({ toTables := T, funcs := #[] } : Program).underlying s with
  | some (.struct fs) => (match fs[f]? with | some fd => (match T.info? fd.type with | some i => i.size != 0 | none => true) | none => true)
  | _ => true
/-- The types at which '==' is carried out by looking at one cell. -/
def okEq (t : TypeId) : Bool :=
  match ({ toTables := T, funcs := #[] } : Program).underlying t with
  | some .bool | some (.int _) | some .string | some (.slice _) | some (.map ..) | some (.func ..) => (match (T.info? t) with | some { desc := .named "sync.copyChecker" _, .. } => false | _ => true)
  | _ => false
def okBin (op : BinOp) (t : TypeId) : Bool := if op matches .eql | .neq then okEq T t else true
/-- Conversions between ints, of a string to itself, of an int kind; of bytes and of strings. -/
def okConv (src dst : TypeId) : Bool :=
  let P : Program := { toTables := T, funcs := #[] }
  match P.underlying src, P.underlying dst with
  | some (.int _), some (.int _) => true
  | some .string, some .string => true
  | some (.slice e), some .string => (match P.underlying e with | some (.int .u8) => true | _ => false)
  | _, _ => false
def okOp : Op → Bool
  | .move x | .assign x | .box _ x | .load _ x | .nilCheck x | .unOp _ _ x | .makeInterface _ x | .extract x _ => okOperand ok x
  | .panic x => ok.pan && okOperand ok x
  | .fieldAddr s x f => okOperand ok x && okField T s f
  | .field _ x _ => okOperand ok x
  | .pick c a b => okOperand ok c && okOperand ok a && okOperand ok b
  | .alloc e => okZero ok T e
  | .build t ps => okZero ok T t && ps.all fun p => okOperand ok p.2
  | .buildSlice t _ ps => okElem ok T t && ps.all fun p => okOperand ok p.2
  | .makeSlice t a v => okElem ok T t && okOperand ok a && okOperand ok v
  | .store _ a v | .indexAddr _ a v | .index _ a v => okOperand ok a && okOperand ok v
  | .binOp op t a v _ => okOperand ok a && okOperand ok v && okBin T op t
  | .convert s d x => okOperand ok x && okConv T s d
  | .makeFunc fn x c => (match fn with | .func f => ok.ok f | _ => false) && x.all (okOperand ok) && c.all (okOperand ok)
  | .slice _ x l h m => okOperand ok x && l.all (okOperand ok) && h.all (okOperand ok) && m.all (okOperand ok)
  | .call c => (match c.callee with | .value f => okOperand ok f | .builtin b => (b matches .append | .cap | .len | .max | .min) && c.argTypes.all (okElem ok T) && (!(b matches .append) || okApp T c.argTypes) | .invoke .. => false) && c.args.all (okOperand ok)
  | _ => false
def okCode : Code → Bool
  | .skip | .exit _ | .label _ | .ret => true
  | .region _ ops _ => ops.all fun o => okOp ok T o.op
  | .seq a b => okCode a && okCode b
  | .cond c a b => okOperand ok c && okCode a && okCode b
  | .block _ b | .loop b | .scope b => okCode b
  | .rangeFunc f _ a b => okOperand ok f && okCode a && okCode b
  | .goto _ | .refuse _ => false
end

/-! ### blocks and worlds -/
structure LoopRel (ok : Cx) (T : Tables) (R : Ren) (l l' : Loop) : Prop where
  state : l'.state = l.state
  pending : l'.pending = l.pending
  okp : ∀ c, l.pending = some c → okCode ok T c = true
  fn : l'.fn = l.fn
  okf : ok.ok l.fn = true
  ord : ok.rd l.fn = true
  tmps : Rows ok R l.tmps l'.tmps
  params : l'.params = l.params
  assign : l'.assign = l.assign
  oka : okCode ok T l.assign = true
  body : l'.body = l.body
  okb : okCode ok T l.body = true
  defers : R l.defers l'.defers

inductive ObjRel (ok : Cx) (T : Tables) (R : Ren) : Obj → Obj → Prop
  | cells {c c' : Array Value} (e : TypeId) (fr : Nat × Nat) : Rows ok R c c' → ObjRel ok T R (.cells c e fr) (.cells c' e fr)
  | loop {l l' : Loop} : LoopRel ok T R l l' → ObjRel ok T R (.loop l) (.loop l')
  | number {a a' : Addr} (l : Bool) : ARel ok R a a' → ObjRel ok T R (.number a l) (.number a' l)
  | deferred (b : Bool) : ObjRel ok T R (.deferred (if b then some [] else none)) (.deferred (if b then some [] else none))

theorem LoopRel.mono {ok : Cx} {T : Tables} {R R₁ : Ren} (h : Le R R₁) {l l' : Loop} (k : LoopRel ok T R l l') : LoopRel ok T R₁ l l' :=
  ⟨k.state, k.pending, k.okp, k.fn, k.okf, k.ord, k.tmps.mono h, k.params, k.assign, k.oka, k.body, k.okb, h _ _ k.defers⟩
theorem ObjRel.mono {ok : Cx} {T : Tables} {R R₁ : Ren} (h : Le R R₁) {o o' : Obj} (k : ObjRel ok T R o o') : ObjRel ok T R₁ o o' := by
  cases k with
  | cells e f r => exact .cells e f (r.mono h)
  | loop k => exact .loop (k.mono h)
  | number l k => exact .number l (k.mono h)
  | deferred b => exact .deferred b

/-- A block that stands for a part of a block, from place n on. It is frozen; its type is none. -/
def Part (ok : Cx) (T : Tables) (R : Ren) (n : Nat) (o o' : Obj) : Prop :=
  ∃ c e fr c' e' fr', o = .cells c e fr ∧ o' = .cells c' e' fr' ∧ T.info? e = none ∧ ∀ (i : Nat) v, c[i]? = some v → ∃ v', c'[i + n]? = some v' ∧ VRel ok R v v'
theorem Part.mono {ok : Cx} {T : Tables} {R R₁ : Ren} (h : Le R R₁) {n : Nat} {o o' : Obj} (k : Part ok T R n o o') : Part ok T R₁ n o o' := by
  obtain ⟨c, e, fr, c', e', fr', h1, h2, h3, h4⟩ := k
  exact ⟨c, e, fr, c', e', fr', h1, h2, h3, fun i v hv => let ⟨v', x, y⟩ := h4 i v hv; ⟨v', x, y.mono h⟩⟩

structure WRel (ok : Cx) (T : Tables) (Fz : Fr) (R : Ren) (w w' : World) : Prop where
  one : ∀ b b' c', R b b' → R b c' → b' = c'
  inj : ∀ b c b', R b b' → R c b' → b = c ∨ (Fz b ∧ Fz c)
  obj : ∀ b b', R b b' → ∃ o o', w.heap[b]? = some o ∧ w'.heap[b']? = some o' ∧ ((¬ Fz b ∧ ok.sh b = 0 ∧ ObjRel ok T R o o') ∨ (Fz b ∧ Part ok T R (ok.sh b) o o'))
  new : ∀ b, w.heap.size ≤ b → ok.sh b = 0
  fz : ∀ b, Fz b → ∃ c e fr, w.heap[b]? = some (.cells c e fr) ∧ ∀ off, off < c.size → fr.1 ≤ off ∧ off < fr.2
  glob : ∀ b b', R b b' → T.globals.size ≤ b ∧ (T.globals.size ≤ b' ∨ Fz b)
  big : T.globals.size ≤ w.heap.size ∧ T.globals.size ≤ w'.heap.size
  os : w'.os = w.os
  tape : ∀ j, Fz.lt (w.drawn + j + 1) → w'.tape (w'.drawn + j) = w.tape (w.drawn + j)

/-- What a stretch of both runs may have done. -/
structure Ext (Fz : Fr) (R : Ren) (w w' : World) (R₁ : Ren) (w₁ w₁' : World) : Prop where
  le : Le R R₁
  new : ∀ b b', R₁ b b' → R b b' ∨ (w.heap.size ≤ b ∧ w'.heap.size ≤ b' ∧ b' + w.heap.size = b + w'.heap.size)
  grow : w₁'.heap.size + w.heap.size = w'.heap.size + w₁.heap.size
  lkeep : ∀ b, b < w.heap.size → (∀ b', ¬ R b b') → w₁.heap[b]? = w.heap[b]?
  all : ∀ b, w.heap.size ≤ b → b < w₁.heap.size → ∃ b', R₁ b b'
  lsize : w.heap.size ≤ w₁.heap.size
  size : w'.heap.size ≤ w₁'.heap.size
  keep : ∀ b', b' < w'.heap.size → (∀ b, R b b' → Fz b) → w₁'.heap[b']? = w'.heap[b']?
  os : w₁'.os = w'.os
  output : w₁'.output = w'.output
  tape : w₁'.tape = w'.tape
  ltape : w₁.tape = w.tape
  mono : w.drawn ≤ w₁.drawn
  draws : w₁'.drawn + w.drawn = w'.drawn + w₁.drawn

theorem Ext.refl (Fz : Fr) (R : Ren) (w w' : World) : Ext Fz R w w' R w w' := ⟨Le.refl R, fun _ _ h => .inl h, rfl, fun _ _ _ => rfl, fun _ h k => absurd k (by omega), Nat.le_refl _, Nat.le_refl _, fun _ _ _ => rfl, rfl, rfl, rfl, rfl, Nat.le_refl _, rfl⟩
theorem Ext.trans {Fz : Fr} {R R₁ R₂ : Ren} {w w' w₁ w₁' w₂ w₂' : World} (h : Ext Fz R w w' R₁ w₁ w₁') (k : Ext Fz R₁ w₁ w₁' R₂ w₂ w₂') : Ext Fz R w w' R₂ w₂ w₂' := by
  refine ⟨h.le.trans k.le, fun b b' x => ?_, by have := h.grow; have := k.grow; omega, fun b hb hn => ?_, fun b h1 h2 => ?_, Nat.le_trans h.lsize k.lsize, Nat.le_trans h.size k.size, fun b' hb hf => ?_, k.os.trans h.os, k.output.trans h.output, k.tape.trans h.tape, k.ltape.trans h.ltape, Nat.le_trans h.mono k.mono, by have := h.draws; have := k.draws; omega⟩
  · rcases k.new b b' x with x | ⟨x, y, z⟩
    · exact h.new b b' x
    · exact .inr ⟨Nat.le_trans h.lsize x, Nat.le_trans h.size y, by have := h.grow; omega⟩
  · rw [k.lkeep b (Nat.lt_of_lt_of_le hb h.lsize) fun b' x => ?_]
    · exact h.lkeep b hb hn
    · rcases h.new b b' x with x | ⟨x, _⟩
      · exact hn b' x
      · omega
  · rcases Nat.lt_or_ge b w₁.heap.size with hl | hl
    · obtain ⟨b', x⟩ := h.all b h1 hl
      exact ⟨b', k.le _ _ x⟩
    · exact k.all b hl h2
  · rw [k.keep b' (Nat.lt_of_lt_of_le hb h.size) fun b x => ?_]
    · exact h.keep b' hb hf
    · rcases h.new b b' x with x | ⟨_, y, _⟩
      · exact hf b x
      · omega

/-- What the run in company may list: plain touches of the related blocks; it writes into no block that the lone run holds frozen. -/
def EvIm (Fz : Fr) (R : Ren) (e : Event) : Prop :=
  match e.loc with
  | .cell a => e.sync = false ∧ ∃ b, R b a.block ∧ (e.write = true → ¬ Fz b)
  | .obj r => e.sync = false ∧ ∃ b, R b r ∧ (e.write = true → ¬ Fz b)
  | .mark .noRoom | .mark (.extern _) => e.sync = true
  | .output => Fz.out = true
  | _ => False
theorem EvIm.mono {Fz : Fr} {R R₁ : Ren} (h : Le R R₁) {e : Event} (k : EvIm Fz R e) : EvIm Fz R₁ e := by
  unfold EvIm at k ⊢
  split <;> simp_all
  · obtain ⟨_, b, x, y⟩ := k; exact ⟨b, h _ _ x, y⟩
  · obtain ⟨_, b, x, y⟩ := k; exact ⟨b, h _ _ x, y⟩

/-- Ways to halt that end a lone run, or raise a panic. -/
def HOk : Halt → Prop
  | .blocked | .waiting | .goexit | .exit _ | .fatal _ | .throw _ | .unsupported (.initOrder _) => False
  | .panic _ | .stuck _ | .unsupported _ => True

theorem ask_mono {α : Type} : ∀ (a : Ask α) (w : World), w.drawn ≤ (w.ask a).2.drawn := by
  intro a
  induction a with
  | done a => intro w; exact Nat.le_refl _
  | ask what range k ih =>
    intro w
    simp only [World.ask]
    split
    · exact ih _ _
    · exact Nat.le_trans (Nat.le_succ _) (ih _ { w with drawn := w.drawn + 1 })
theorem sys_mono (w : World) (c : Sys) : w.drawn ≤ (w.sys c).2.drawn := by
  unfold World.sys
  have := ask_mono (Kernel.perform c w.os) w
  split
  · exact Nat.le_refl _
  · rename_i h
    rw [h] at this
    exact this
def Result.world {α : Type} : Result α → World
  | .ok _ w | .halt _ w => w
theorem far_drawn {P : Program} {w w₁ : World} {a : Addr} {v : Value} {b : Bool} {l : List Addr} (h : w.farStore P a v b = .ok (w₁, l)) : w₁.drawn = w.drawn := by
  unfold World.farStore at h
  split at h
  · split at h
    · rename_i r hr
      cases h
      unfold World.viewStore at hr
      simp only [bind, Except.bind, pure, Except.pure] at hr
      repeat (split at hr <;> try (cases hr; done))
      all_goals (cases hr; rfl)
    · cases h
  · cases h
/-- Draws are not taken back. -/
theorem run_mono {α : Type} (P : Program) : ∀ (s : Sem α) (w : World), w.drawn ≤ (Result.world (s.run P w)).drawn := by
  intro s
  induction s with
  | pure a => intro w; exact Nat.le_refl _
  | load m a k ih =>
    intro w
    simp only [Sem.run]
    split
    · exact ih _ _
    · split
      · exact ih _ _
      · exact Nat.le_refl _
  | store m a v k ih =>
    intro w
    cases v <;> simp only [Sem.run] <;> first
      | exact Nat.le_refl _
      | (split
         · split
           · exact Nat.le_refl _
           · exact Nat.le_trans (Nat.le_refl _) (ih (w.setCell a _))
         · split
           · rename_i h; rw [← far_drawn h]; exact ih _
           · exact Nat.le_refl _)
  | new o k ih => intro w; exact ih _ { w with heap := w.heap.push o }
  | shape r k ih => intro w; exact ih _ _
  | freeze a n k ih => intro w; refine Nat.le_trans ?_ (ih (w.freeze a n)); unfold World.freeze; split <;> exact Nat.le_refl _
  | frozen a k ih => intro w; exact ih _ _
  | getObj r k ih => intro w; simp only [Sem.run]; split <;> first | exact Nat.le_refl _ | exact ih _ _
  | setObj r o k ih => intro w; simp only [Sem.run]; split <;> first | exact Nat.le_refl _ | exact ih { w with heap := w.heap.setIfInBounds r o }
  | choose q k ih => intro w; simp only [Sem.run]; split; exact ih _ _; exact Nat.le_trans (Nat.le_succ _) (ih _ { w with drawn := w.drawn + 1 })
  | sys c k ih => intro w; exact Nat.le_trans (sys_mono w c) (ih _ (w.sys c).2)
  | program k ih => intro w; exact ih _ _
  | mark m k ih => intro w; exact ih _
  | halt h => intro w; exact Nat.le_refl _

/-- Two programs with the same tables. -/
abbrev prg (T : Tables) (F : Array Func) : Program := { toTables := T, funcs := F }

section
variable (ok : Cx) (T : Tables) (Fz : Fr) (FL FC : Array Func)
def Res {α β : Type} (A : Ren → α → β → Prop) (R : Ren) (w w' : World) (es : Array Event) (r : Result α) (r' : Result β × Array Event) : Prop :=
  Fz.lt (Result.world r).drawn → match r with
  | .ok a w₁ => ∃ R₁ a' w₁' new, r' = (.ok a' w₁', es ++ new) ∧ Ext Fz R w w' R₁ w₁ w₁' ∧ WRel ok T Fz R₁ w₁ w₁' ∧ A R₁ a a' ∧ ∀ e ∈ new, EvIm Fz R₁ e
  | .halt h w₁ => HOk h ∧ ∀ v, h = .panic v → ∃ R₁ v' w₁' new, r' = (.halt (.panic v') w₁', es ++ new) ∧ Ext Fz R w w' R₁ w₁ w₁' ∧ WRel ok T Fz R₁ w₁ w₁' ∧ VRel ok R₁ v v' ∧ ∀ e ∈ new, EvIm Fz R₁ e
def Sim {α β : Type} (R : Ren) (A : Ren → α → β → Prop) (s : Sem α) (s' : Sem β) : Prop :=
  ∀ R₁, Le R R₁ → ∀ w w', WRel ok T Fz R₁ w w' → ∀ es, Res ok T Fz A R₁ w w' es (s.run (prg T FL) w) (s'.runT (prg T FC) w' es)
end

section
variable {ok : Cx} {T : Tables} {Fz : Fr} {FL FC : Array Func} {α β α' β' : Type} {R : Ren}
theorem Sim.mono {A : Ren → α → α' → Prop} {s : Sem α} {s' : Sem α'} {R₁ : Ren} (h : Sim ok T Fz FL FC R A s s') (k : Le R R₁) : Sim ok T Fz FL FC R₁ A s s' :=
  fun R₂ h2 => h R₂ (k.trans h2)
theorem Sim.bind {A : Ren → α → α' → Prop} {B : Ren → β → β' → Prop} {s : Sem α} {s' : Sem α'} {f : α → Sem β} {f' : α' → Sem β'}
    (h : Sim ok T Fz FL FC R A s s') (k : ∀ R₁, Le R R₁ → ∀ a a', A R₁ a a' → Sim ok T Fz FL FC R₁ B (f a) (f' a')) : Sim ok T Fz FL FC R B (s >>= f) (s' >>= f') := by
  intro R₁ hR w w' hw es
  have h1 := h R₁ hR w w' hw es
  show Res ok T Fz B R₁ w w' es ((s.bind f).run (prg T FL) w) ((s'.bind f').runT (prg T FC) w' es)
  rw [Sem.run_bind', Sem.runT_bind']
  cases hr : s.run (prg T FL) w with
  | ok a w₁ =>
    rw [hr] at h1
    show Res ok T Fz B R₁ w w' es ((f a).run (prg T FL) w₁) _
    intro hlt
    obtain ⟨R₂, a', w₁', new, e1, x1, x2, x3, x4⟩ := h1 (hlt.le (run_mono (prg T FL) (f a) w₁))
    rw [e1]
    have h2 := k R₂ (hR.trans x1.le) a a' x3 R₂ (Le.refl _) w₁ w₁' x2 (es ++ new) hlt
    cases hr2 : (f a).run (prg T FL) w₁ with
    | ok b w₂ =>
      rw [hr2] at h2
      obtain ⟨R₃, b', w₂', new2, e2, y1, y2, y3, y4⟩ := h2
      exact ⟨R₃, b', w₂', new ++ new2, by rw [← Array.append_assoc]; exact e2, x1.trans y1, y2, y3, fun e he => (Array.mem_append.1 he).elim (fun z => (x4 e z).mono y1.le) (y4 e)⟩
    | halt hh w₂ =>
      rw [hr2] at h2
      obtain ⟨g1, g2⟩ := h2
      refine ⟨g1, fun v e => ?_⟩
      obtain ⟨R₃, b', w₂', new2, e2, y1, y2, y3, y4⟩ := g2 v e
      exact ⟨R₃, b', w₂', new ++ new2, by rw [← Array.append_assoc]; exact e2, x1.trans y1, y2, y3, fun e he => (Array.mem_append.1 he).elim (fun z => (x4 e z).mono y1.le) (y4 e)⟩
  | halt hh w₁ =>
    rw [hr] at h1
    intro hlt
    obtain ⟨g1, g2⟩ := h1 hlt
    refine ⟨g1, fun v e => ?_⟩
    obtain ⟨R₃, b', w₂', new2, e2, y⟩ := g2 v e
    refine ⟨R₃, b', w₂', new2, ?_, y⟩
    rw [e2]
theorem Sim.imp {A B : Ren → α → α' → Prop} {s : Sem α} {s' : Sem α'} (h : Sim ok T Fz FL FC R A s s') (k : ∀ R₁, Le R R₁ → ∀ a a', A R₁ a a' → B R₁ a a') : Sim ok T Fz FL FC R B s s' := by
  intro R₁ hR w w' hw es
  have h1 := h R₁ hR w w' hw es
  cases hr : s.run (prg T FL) w with
  | ok a w₁ =>
    rw [hr] at h1
    intro hlt
    obtain ⟨R₂, a', w₁', new, e1, x1, x2, x3, x4⟩ := h1 hlt
    exact ⟨R₂, a', w₁', new, e1, x1, x2, k R₂ (hR.trans x1.le) a a' x3, x4⟩
  | halt hh w₁ => rw [hr] at h1; exact h1
theorem Sim.pure {A : Ren → α → α' → Prop} {a : α} {a' : α'} (h : ∀ R₁, Le R R₁ → A R₁ a a') : Sim ok T Fz FL FC R A (Pure.pure a) (Pure.pure a') :=
  fun R₁ hR w w' hw es _ => ⟨R₁, a', w', #[], by rw [Array.append_empty]; rfl, Ext.refl _ _ _ _, hw, h R₁ hR, by simp⟩
theorem Sim.val {v v' : Value} (h : VRel ok R v v') : Sim ok T Fz FL FC R (VRel ok) (Pure.pure v) (Pure.pure v') := .pure fun _ k => h.mono k
/-- The lone run ends here: nothing is asked. -/
theorem Sim.halt {A : Ren → α → α' → Prop} {h : Halt} {s' : Sem α'} (h1 : HOk h) (h2 : ∀ v, h ≠ .panic v) : Sim ok T Fz FL FC R A (.halt h) s' :=
  fun _ _ _ _ _ _ _ => ⟨h1, fun v e => absurd e (h2 v)⟩
theorem Sim.stuck {A : Ren → α → α' → Prop} {why : String} {s' : Sem α'} : Sim ok T Fz FL FC R A (Go.stuck why) s' := .halt trivial (by simp)
theorem Sim.unsup {A : Ren → α → α' → Prop} {u : Unsupported} {s' : Sem α'} (h : ∀ g, u ≠ .initOrder g) : Sim ok T Fz FL FC R A (Go.unsupported u) s' :=
  .halt (by cases u <;> first | trivial | exact absurd rfl (h _)) (by simp)
theorem Sim.panic {A : Ren → α → α' → Prop} {v v' : Value} (h : VRel ok R v v') : Sim ok T Fz FL FC R A (goPanic v) (goPanic v') :=
  fun R₁ hR w w' hw es _ => ⟨trivial, fun x e => by cases e; exact ⟨R₁, v', w', #[], by rw [Array.append_empty]; rfl, Ext.refl _ _ _ _, hw, h.mono hR, by simp⟩⟩
/-- The lone run halts in the end, whatever it looks at. -/
theorem Sim.bindHalt {A : Ren → β → β' → Prop} {s : Sem α} {f : α → Sem β} {s' : Sem β'} (h : ∀ R₁, Le R R₁ → ∀ w w', WRel ok T Fz R₁ w w' → ∃ hh w₁, ((s >>= f).run (prg T FL) w) = .halt hh w₁ ∧ HOk hh ∧ ∀ v, hh ≠ .panic v) : Sim ok T Fz FL FC R A (s >>= f) s' := by
  intro R₁ hR w w' hw es
  obtain ⟨hh, w₁, e, h1, h2⟩ := h R₁ hR w w' hw
  rw [e]
  exact fun _ => ⟨h1, fun v e => absurd e (h2 v)⟩
theorem Sim.ite {A : Ren → α → α' → Prop} {c c' : Prop} [Decidable c] [Decidable c'] (hc : c ↔ c') {x y : Sem α} {x' y' : Sem α'} (h1 : c → Sim ok T Fz FL FC R A x x') (h2 : ¬ c → Sim ok T Fz FL FC R A y y') :
    Sim ok T Fz FL FC R A (if c then x else y) (if c' then x' else y') := by
  by_cases h : c
  · rw [if_pos h, if_pos (hc.1 h)]; exact h1 h
  · rw [if_neg h, if_neg (fun k => h (hc.2 k))]; exact h2 h
theorem Sim.program {A : Ren → β → β' → Prop} {f : Program → Sem β} {f' : Program → Sem β'} (h : Sim ok T Fz FL FC R A (f (prg T FL)) (f' (prg T FC))) : Sim ok T Fz FL FC R A (Go.program >>= f) (Go.program >>= f') := by
  intro R₁ hR w w' hw es
  exact h R₁ hR w w' hw es
end

/-! ### the primitive computations -/
section
variable {ok : Cx} {T : Tables} {Fz : Fr} {FL FC : Array Func} {R : Ren}
theorem cell_some {w : World} {a : Addr} {v : Value} (h : w.cell? a = some v) : ∃ c e fr, w.heap[a.block]? = some (.cells c e fr) ∧ a.spot = none ∧ c[a.off]? = some v := by
  unfold World.cell? at h
  split at h
  · rename_i c e fr hc
    split at h
    · cases h
    · rename_i hs
      exact ⟨c, e, fr, hc, by simpa using hs, h⟩
  · cases h
theorem WRel.cells {w w' : World} (h : WRel ok T Fz R w w') {a a' : Addr} (ha : ARel ok R a a') {v : Value} (hv : w.cell? a = some v) :
    ∃ v', w'.cell? a' = some v' ∧ VRel ok R v v' := by
  obtain ⟨o, o', h1, h2, h3⟩ := h.obj _ _ ha.1
  obtain ⟨c, e, fr, hc, hs, hcv⟩ := cell_some hv
  rw [hc] at h1; cases h1
  have hs' : a'.spot = none := by rw [ha.2.2]; exact hs
  unfold World.cell?
  rw [h2]
  rcases h3 with ⟨_, h0, h3⟩ | ⟨_, h3⟩
  · cases h3 with
    | cells e f r =>
      simp only [hs', Option.isSome_none, Bool.false_eq_true, if_false]
      rw [ha.2.1, h0, Nat.add_zero]
      exact r.get hcv
  · obtain ⟨c, e, fr, c', e', fr', k1, k2, _, k4⟩ := h3
    cases k1
    subst k2
    simp only [hs', Option.isSome_none, Bool.false_eq_true, if_false]
    rw [ha.2.1]
    exact k4 _ _ hcv
/-- A block of the relation holds no cell that another type's block shows, and waits for nothing. -/
theorem WRel.far {w w' : World} (h : WRel ok T Fz R w w') {b b' : Nat} (hb : R b b') : ∃ o, w.heap[b]? = some o ∧ ((∃ c e fr, o = .cells c e fr) ∨ (∃ l, o = .loop l) ∨ (∃ a l, o = .number a l) ∨ ∃ d, o = .deferred d) := by
  obtain ⟨o, o', h1, h2, h3⟩ := h.obj _ _ hb
  refine ⟨o, h1, ?_⟩
  rcases h3 with ⟨_, _, h3⟩ | ⟨_, h3⟩
  · cases h3 with
    | cells e f r => exact .inl ⟨_, _, _, rfl⟩
    | loop k => exact .inr (.inl ⟨_, rfl⟩)
    | number l k => exact .inr (.inr (.inl ⟨_, _, rfl⟩))
    | deferred b => exact .inr (.inr (.inr ⟨_, rfl⟩))
  · obtain ⟨c, e, fr, c', e', fr', k1, _⟩ := h3
    exact .inl ⟨_, _, _, k1⟩
theorem Sim.load {a a' : Addr} (ha : ARel ok R a a') : Sim ok T Fz FL FC R (VRel ok) (Go.load a) (Go.load a') := by
  intro R₁ hR w w' hw es
  have ha' := ha.mono hR
  simp only [Go.load, Sem.run, Sem.runT]
  cases hv : w.cell? a with
  | some v =>
    obtain ⟨v', hv', hr⟩ := hw.cells ha' hv
    rw [hv']
    refine fun _ => ⟨R₁, v', w', #[⟨.cell a', false, false⟩], by rw [Array.append_singleton]; rfl, Ext.refl _ _ _ _, hw, hr, ?_⟩
    intro e he
    simp at he; subst he
    exact ⟨rfl, a.block, ha'.1, by simp⟩
  | none =>
    obtain ⟨o, h1, h3⟩ := hw.far ha'.1
    have : ∃ s, w.farLoad (prg T FL) a false = .error (.stuck s) := by
      unfold World.farLoad World.noCell
      rw [h1]
      rcases h3 with ⟨_, _, _, rfl⟩ | ⟨_, rfl⟩ | ⟨_, _, rfl⟩ | ⟨_, rfl⟩ <;> exact ⟨_, rfl⟩
    obtain ⟨s, hs⟩ := this
    have e : (Mode.plain == Mode.atomic) = false := rfl
    rw [e, hs]
    exact fun _ => ⟨trivial, by simp⟩
/-- A store. -/
theorem WRel.set {w w' : World} (h : WRel ok T Fz R w w') {a a' : Addr} (ha : ARel ok R a a') {v v' x : Value} (hv : VRel ok R v v') (hx : w.cell? a = some x) (hf : w.frozen? a = false) :
    ¬ Fz a.block ∧ w'.frozen? a' = false ∧ WRel ok T Fz R (w.setCell a v) (w'.setCell a' v') ∧ Ext Fz R w w' R (w.setCell a v) (w'.setCell a' v') := by
  obtain ⟨c, e, fr, hc, hs, hcx⟩ := cell_some hx
  obtain ⟨o, o', h1, h2, h3⟩ := h.obj _ _ ha.1
  obtain ⟨hlt, _⟩ := Array.getElem?_eq_some_iff.1 hcx
  rw [hc] at h1; cases h1
  have hs' : a'.spot = none := by rw [ha.2.2]; exact hs
  have hnf : ¬ Fz a.block := by
    intro hz
    obtain ⟨c2, e2, fr2, k1, k2⟩ := h.fz _ hz
    rw [hc] at k1; cases k1
    have := k2 a.off hlt
    simp [World.frozen?, hc] at hf
    omega
  rcases h3 with ⟨_, h0, h3⟩ | ⟨hz, _⟩
  · have hoff : a'.off = a.off := by rw [ha.2.1, h0, Nat.add_zero]
    cases h3 with
    | @cells _ c' _ _ r =>
      have hf' : w'.frozen? a' = false := by
        simp only [World.frozen?, h2]
        simp only [World.frozen?, hc] at hf
        rw [hoff]
        exact hf
      have e1 : ∀ b, (w.setCell a v).heap[b]? = if b = a.block then some (.cells (c.setIfInBounds a.off v) e fr) else w.heap[b]? := by
        intro b
        simp only [World.setCell, Array.getElem?_modify]
        by_cases hbb : a.block = b
        · subst hbb; simp [hc, hs]
        · rw [if_neg hbb, if_neg (Ne.symm hbb)]
      have e2 : ∀ b, (w'.setCell a' v').heap[b]? = if b = a'.block then some (.cells (c'.setIfInBounds a'.off v') e fr) else w'.heap[b]? := by
        intro b
        simp only [World.setCell, Array.getElem?_modify]
        by_cases hbb : a'.block = b
        · subst hbb; simp [h2, hs']
        · rw [if_neg hbb, if_neg (Ne.symm hbb)]
      refine ⟨hnf, hf', ⟨h.one, h.inj, fun b b' hR => ?_, fun b hb => h.new b (by simpa [World.setCell] using hb), fun b hz => ?_, h.glob, by simpa [World.setCell] using h.big, h.os, h.tape⟩, ⟨Le.refl _, fun _ _ x => .inl x, by simp [World.setCell], fun b _ hn => by rw [e1, if_neg (fun e => hn _ (e ▸ ha.1))], fun b h1 h2 => absurd h2 (by simp [World.setCell]; omega), by simp [World.setCell], by simp [World.setCell], fun b' hlt' hkeep => ?_, rfl, rfl, rfl, rfl, Nat.le_refl _, rfl⟩⟩
      · rw [e1, e2]
        by_cases hbb : b = a.block
        · subst hbb
          have : b' = a'.block := h.one _ _ _ hR ha.1
          subst this
          rw [if_pos rfl, if_pos rfl]
          exact ⟨_, _, rfl, rfl, .inl ⟨hnf, h0, .cells e fr (by rw [hoff]; exact r.set _ hv)⟩⟩
        · have hbb' : b' ≠ a'.block := fun e => (h.inj _ _ _ hR (e ▸ ha.1)).elim hbb fun x => hnf x.2
          rw [if_neg hbb, if_neg hbb']
          exact h.obj b b' hR
      · have hne : b ≠ a.block := fun e => hnf (e ▸ hz)
        rw [e1, if_neg hne]
        exact h.fz b hz
      · rw [e2]
        by_cases hbb' : b' = a'.block
        · subst hbb'; exact absurd (hkeep _ ha.1) hnf
        · rw [if_neg hbb']
  · exact absurd hz hnf
theorem Sim.store {a a' : Addr} (ha : ARel ok R a a') {v v' : Value} (hv : VRel ok R v v') : Sim ok T Fz FL FC R (fun _ _ _ => True) (Go.store a v) (Go.store a' v') := by
  intro R₁ hR w w' hw es
  have ha' := ha.mono hR
  have hv' := hv.mono hR
  have stuckCase : ∀ x : Value, (∃ cs, x = .agg cs) ∨ (∃ cs, x = .tuple cs) → (Go.store a x).run (prg T FL) w = .halt (.stuck "store: not the value of one cell") w := by
    rintro x (⟨cs, rfl⟩ | ⟨cs, rfl⟩) <;> rfl
  by_cases hx : (∃ cs, v = .agg cs) ∨ (∃ cs, v = .tuple cs)
  · rw [stuckCase v hx]; exact fun _ => ⟨trivial, by simp⟩
  have hx' : ¬ ((∃ cs, v' = .agg cs) ∨ (∃ cs, v' = .tuple cs)) := by
    cases hv <;> simp_all
  have e0 : (Go.store a v).run (prg T FL) w = (match w.cell? a with
    | some _ => if w.frozen? a then .halt (.unsupported (.unsafePointer "a write to bytes that a string shares")) w else .ok () (w.setCell a v)
    | none => match w.farStore (prg T FL) a v false with
      | .ok (w, _) => .ok () w
      | .error h => .halt h w) := by
    cases v <;> first | (exact absurd (.inl ⟨_, rfl⟩) hx) | (exact absurd (.inr ⟨_, rfl⟩) hx) | (simp only [Go.store, Sem.run]; rfl)
  have e0' : (Go.store a' v').runT (prg T FC) w' es = (match w'.cell? a' with
    | some _ => if w'.frozen? a' then (.halt (.unsupported (.unsafePointer "a write to bytes that a string shares")) w', es) else (.ok () (w'.setCell a' v'), es.push ⟨.cell a', true, false⟩)
    | none => match w'.farStore (prg T FC) a' v' false with
      | .ok (w, touched) => (.ok () w, es ++ touched.toArray.map (⟨.cell ·, true, false⟩))
      | .error h => (.halt h w', es)) := by
    cases v' <;> first | (exact absurd (.inl ⟨_, rfl⟩) hx') | (exact absurd (.inr ⟨_, rfl⟩) hx') | (simp only [Go.store, Sem.runT]; rfl)
  rw [e0, e0']
  cases hc : w.cell? a with
  | some y =>
    cases hf : w.frozen? a with
    | true => simp only [if_true]; exact fun _ => ⟨trivial, by simp⟩
    | false =>
      obtain ⟨k1, k2, k3, k4⟩ := hw.set ha' hv' hc hf
      obtain ⟨y', hy', _⟩ := hw.cells ha' hc
      rw [hy', k2]
      simp only [Bool.false_eq_true, if_false]
      refine fun _ => ⟨R₁, (), _, #[⟨.cell a', true, false⟩], by rw [Array.append_singleton], k4, k3, trivial, ?_⟩
      intro e he
      simp at he; subst he
      exact ⟨rfl, a.block, ha'.1, fun _ => k1⟩
  | none =>
    obtain ⟨o, h1, h3⟩ := hw.far ha'.1
    have : ∃ s, w.farStore (prg T FL) a v false = .error (.stuck s) := by
      unfold World.farStore World.noCell
      rw [h1]
      rcases h3 with ⟨_, _, _, rfl⟩ | ⟨_, rfl⟩ | ⟨_, _, rfl⟩ | ⟨_, rfl⟩ <;> exact ⟨_, rfl⟩
    obtain ⟨s, hs⟩ := this
    simp only [hs]
    exact fun _ => ⟨trivial, by simp⟩
/-- A block that is made. -/
theorem WRel.push {w w' : World} (h : WRel ok T Fz R w w') {o o' : Obj} (ho : ObjRel ok T R o o') :
    let R₁ : Ren := fun b b' => R b b' ∨ (b = w.heap.size ∧ b' = w'.heap.size)
    Le R R₁ ∧ R₁ w.heap.size w'.heap.size ∧ WRel ok T Fz R₁ { w with heap := w.heap.push o } { w' with heap := w'.heap.push o' } ∧ Ext Fz R w w' R₁ { w with heap := w.heap.push o } { w' with heap := w'.heap.push o' } := by
  intro R₁
  have le : Le R R₁ := fun _ _ x => .inl x
  have lt : ∀ b b', R b b' → b < w.heap.size ∧ b' < w'.heap.size := by
    intro b b' x
    obtain ⟨o, o', h1, h2, _⟩ := h.obj _ _ x
    exact ⟨(Array.getElem?_eq_some_iff.1 h1).1, (Array.getElem?_eq_some_iff.1 h2).1⟩
  have hnz : ¬ Fz w.heap.size := fun hz => by
    obtain ⟨c, e, fr, k1, _⟩ := h.fz _ hz
    have := (Array.getElem?_eq_some_iff.1 k1).1
    omega
  refine ⟨le, .inr ⟨rfl, rfl⟩, ⟨?_, ?_, ?_, ?_, ?_, ?_, by simp; have := h.big; omega, h.os, h.tape⟩, ⟨le, ?_, by simp; omega, fun b hb _ => by simp only [Array.getElem?_push]; rw [if_neg (by omega)], fun b h1 h2 => ⟨w'.heap.size, .inr ⟨by simp at h2; omega, rfl⟩⟩, by simp, by simp, ?_, rfl, rfl, rfl, rfl, Nat.le_refl _, rfl⟩⟩
  · rintro b b' c' (x | ⟨rfl, rfl⟩) (y | ⟨y1, rfl⟩)
    · exact h.one _ _ _ x y
    · have := lt _ _ x; omega
    · have := lt _ _ y; omega
    · rfl
  · rintro b c b' (x | ⟨rfl, rfl⟩) (y | ⟨rfl, y1⟩)
    · exact h.inj _ _ _ x y
    · have := lt _ _ x; omega
    · have := lt _ _ y; omega
    · exact .inl rfl
  · rintro b b' (x | ⟨rfl, rfl⟩)
    · obtain ⟨o, o', h1, h2, h3⟩ := h.obj _ _ x
      have := lt _ _ x
      exact ⟨o, o', by simp only [Array.getElem?_push]; rw [if_neg (by omega)]; exact h1, by simp only [Array.getElem?_push]; rw [if_neg (by omega)]; exact h2, h3.imp (fun z => ⟨z.1, z.2.1, z.2.2.mono le⟩) fun z => ⟨z.1, z.2.mono le⟩⟩
    · exact ⟨o, o', by simp, by simp, .inl ⟨hnz, h.new _ (Nat.le_refl _), ho.mono le⟩⟩
  · intro b hb
    exact h.new b (by simp at hb; omega)
  · intro b hz
    obtain ⟨c, e, fr, k1, k2⟩ := h.fz b hz
    have := (Array.getElem?_eq_some_iff.1 k1).1
    exact ⟨c, e, fr, by simp only [Array.getElem?_push]; rw [if_neg (by omega)]; exact k1, k2⟩
  · rintro b b' (x | ⟨rfl, rfl⟩)
    · exact h.glob _ _ x
    · exact ⟨h.big.1, .inl h.big.2⟩
  · rintro b b' (x | ⟨rfl, rfl⟩)
    · exact .inl x
    · exact .inr ⟨Nat.le_refl _, Nat.le_refl _, by omega⟩
  · intro b' hlt _
    simp only [Array.getElem?_push]
    rw [if_neg (by omega)]
end
end Go.Proofs.Ytgkakgibgfehaaa.Sim

namespace Go.Proofs.Ytgkakgibgfehaaa.Sim
section
variable {ok : Cx} {T : Tables} {Fz : Fr} {FL FC : Array Func} {R : Ren} {α β : Type}

/-! ### blocks -/
theorem Sim.new {o o' : Obj} (ho : ObjRel ok T R o o') : Sim ok T Fz FL FC R (fun R r r' => R r r') (newObj o) (newObj o') := by
  intro R₁ hR w w' hw es
  obtain ⟨h1, h2, h3, h4⟩ := hw.push (ho.mono hR)
  exact fun _ => ⟨_, _, _, #[], by rw [Array.append_empty]; rfl, h4, h3, h2, by simp⟩
theorem Sim.newFresh {o o' : Obj} (ho : ObjRel ok T R o o') : Sim ok T Fz FL FC R (fun R r r' => R r r' ∧ ok.sh r = 0) (newObj o) (newObj o') := by
  intro R₁ hR w w' hw es
  obtain ⟨h1, h2, h3, h4⟩ := hw.push (ho.mono hR)
  exact fun _ => ⟨_, _, _, #[], by rw [Array.append_empty]; rfl, h4, h3, ⟨h2, hw.new _ (Nat.le_refl _)⟩, by simp⟩
/-- What is told of a block: the same of both, or both are rows of cells, the lone one of a type that is none. -/
def SRel (T : Tables) (s s' : Option (TypeId × Nat)) : Prop := s' = s ∨ ∃ e n e' n', s = some (e, n) ∧ s' = some (e', n') ∧ T.info? e = none
theorem WRel.shape {w w' : World} (h : WRel ok T Fz R w w') {r r' : Nat} (hr : R r r') : SRel T (w.shape? r) (w'.shape? r') := by
  obtain ⟨o, o', h1, h2, h3⟩ := h.obj _ _ hr
  unfold World.shape?
  rw [h1, h2]
  rcases h3 with ⟨_, _, h3⟩ | ⟨_, h3⟩
  · left
    cases h3 with
    | cells e f k => simp [k.1]
    | loop k => rfl
    | number l k => rfl
    | deferred b => rfl
  · obtain ⟨c, e, fr, c', e', fr', rfl, rfl, k3, _⟩ := h3
    exact .inr ⟨e, c.size, e', c'.size, rfl, rfl, k3⟩
theorem Sim.shape {r r' : Nat} (hr : R r r') : Sim ok T Fz FL FC R (fun _ s s' => SRel T s s') (Go.shape r) (Go.shape r') := by
  intro R₁ hR w w' hw es
  exact fun _ => ⟨R₁, w'.shape? r', w', #[], by rw [Array.append_empty]; rfl, Ext.refl _ _ _ _, hw, hw.shape (hR _ _ hr), by simp⟩
theorem Sim.getObj {r r' : Nat} (hr : R r r') : Sim ok T Fz FL FC R (fun R o o' => ObjRel ok T R o o' ∧ ∀ c e f, o ≠ .cells c e f) (Go.getObj r) (Go.getObj r') := by
  intro R₁ hR w w' hw es
  obtain ⟨o, o', h1, h2, h3⟩ := hw.obj _ _ (hR _ _ hr)
  simp only [Go.getObj, Sem.run, Sem.runT, h1, h2]
  rcases h3 with ⟨_, _, h3⟩ | ⟨_, h3⟩
  · cases h3 with
    | cells e k f => exact fun _ => ⟨trivial, by simp⟩
    | @loop l l' k =>
      refine fun _ => ⟨R₁, .loop l', w', #[⟨.obj r', false, false⟩], by rw [Array.append_singleton]; rfl, Ext.refl _ _ _ _, hw, ⟨.loop k, by simp⟩, ?_⟩
      intro x hx; simp at hx; subst hx
      exact ⟨rfl, r, hR _ _ hr, by simp⟩
    | number l k =>
      refine fun _ => ⟨R₁, _, w', #[⟨.obj r', false, false⟩], by rw [Array.append_singleton]; rfl, Ext.refl _ _ _ _, hw, ⟨.number l k, by simp⟩, ?_⟩
      intro x hx; simp at hx; subst hx
      exact ⟨rfl, r, hR _ _ hr, by simp⟩
    | deferred b =>
      refine fun _ => ⟨R₁, _, w', #[⟨.obj r', false, false⟩], by rw [Array.append_singleton]; rfl, Ext.refl _ _ _ _, hw, ⟨.deferred b, by simp⟩, ?_⟩
      intro x hx; simp at hx; subst hx
      exact ⟨rfl, r, hR _ _ hr, by simp⟩
  · obtain ⟨c, e, fr, c', e', fr', rfl, rfl, _⟩ := h3
    exact fun _ => ⟨trivial, by simp⟩
theorem Sim.setObj {r r' : Nat} (hr : R r r') {o o' : Obj} (ho : ObjRel ok T R o o') (hc : o'.isChan = false) : Sim ok T Fz FL FC R (fun _ _ _ => True) (Go.setObj r o) (Go.setObj r' o') := by
  intro R₁ hR w w' hw es
  have hr1 := hR _ _ hr
  obtain ⟨p, p', h1, h2, h3⟩ := hw.obj _ _ hr1
  simp only [Go.setObj, Sem.run, Sem.runT, h1, h2]
  have main : (∀ c e f, p ≠ .cells c e f) → ok.sh r = 0 → Res ok T Fz (fun _ _ _ => True) R₁ w w' es (.ok () { w with heap := w.heap.setIfInBounds r o }) (.ok () { w' with heap := w'.heap.setIfInBounds r' o' }, es.push ⟨.obj r', true, o'.isChan⟩) := by
    intro hp h0
    have hb : r < w.heap.size := (Array.getElem?_eq_some_iff.1 h1).1
    have hb' : r' < w'.heap.size := (Array.getElem?_eq_some_iff.1 h2).1
    have hnf : ¬ Fz r := fun hz => by
      obtain ⟨c, e, f, k, _⟩ := hw.fz _ hz
      rw [h1] at k; cases k; exact hp _ _ _ rfl
    refine fun _ => ⟨R₁, (), { w' with heap := w'.heap.setIfInBounds r' o' }, #[⟨.obj r', true, o'.isChan⟩], by rw [Array.append_singleton], ⟨Le.refl _, fun _ _ x => .inl x, by simp, fun b _ hn => by simp only [Array.getElem?_setIfInBounds]; rw [if_neg (fun e => hn _ (e ▸ hr1))], fun b h1 h2 => absurd h2 (by simp; omega), by simp, by simp, fun b' hlt hk => ?_, rfl, rfl, rfl, rfl, Nat.le_refl _, rfl⟩,
      ⟨hw.one, hw.inj, fun b b' x => ?_, fun b hb => hw.new b (by simpa using hb), fun b hz => ?_, hw.glob, by simpa using hw.big, hw.os, hw.tape⟩, trivial, ?_⟩
    · simp only [Array.getElem?_setIfInBounds]
      rw [if_neg]
      rintro rfl
      exact hnf (hk _ hr1)
    · simp only [Array.getElem?_setIfInBounds]
      by_cases e : r = b
      · subst e
        obtain rfl := hw.one _ _ _ x hr1
        rw [if_pos rfl, if_pos rfl, if_pos hb, if_pos hb']
        exact ⟨o, o', rfl, rfl, .inl ⟨hnf, h0, ho.mono hR⟩⟩
      · have e' : r' ≠ b' := fun e2 => (hw.inj _ _ _ hr1 (e2 ▸ x)).elim e fun z => hnf z.1
        rw [if_neg e, if_neg e']
        exact hw.obj _ _ x
    · have : r ≠ b := fun e => hnf (e ▸ hz)
      simp only [Array.getElem?_setIfInBounds]
      rw [if_neg this]
      exact hw.fz b hz
    · intro x hx; simp at hx; subst hx
      exact ⟨hc, r, hr1, fun _ => hnf⟩
  rcases h3 with ⟨_, h0, h3⟩ | ⟨_, h3⟩
  · cases h3 with
    | cells e k f => exact fun _ => ⟨trivial, by simp⟩
    | loop k => exact main (by simp) h0
    | number l k => exact main (by simp) h0
    | deferred b => exact main (by simp) h0
  · obtain ⟨c, e, fr, c', e', fr', rfl, rfl, _⟩ := h3
    exact fun _ => ⟨trivial, by simp⟩
/-- A draw. -/
theorem WRel.draw {w w' : World} (hw : WRel ok T Fz R w w') (hlt : Fz.lt (w.drawn + 1)) :
    (Ext Fz R w w' R { w with drawn := w.drawn + 1 } { w' with drawn := w'.drawn + 1 } ∧ WRel ok T Fz R { w with drawn := w.drawn + 1 } { w' with drawn := w'.drawn + 1 }) ∧ w'.tape w'.drawn = w.tape w.drawn := by
  refine ⟨⟨⟨Le.refl _, fun _ _ x => .inl x, rfl, fun _ _ _ => rfl, fun _ h k => absurd k (by simp; omega), Nat.le_refl _, Nat.le_refl _, fun _ _ _ => rfl, rfl, rfl, rfl, rfl, Nat.le_succ _, by simp; omega⟩, ⟨hw.one, hw.inj, hw.obj, hw.new, hw.fz, hw.glob, hw.big, hw.os, fun j hj => ?_⟩⟩, ?_⟩
  · have := hw.tape (j + 1) (by simpa [Nat.add_assoc, Nat.add_comm 1] using hj)
    simpa [Nat.add_assoc, Nat.add_comm 1] using this
  · simpa using hw.tape 0 hlt
theorem Sim.choose (q : Question) : Sim ok T Fz FL FC R (fun _ n n' => n' = n) (Go.choose q) (Go.choose q) := by
  intro R₁ hR w w' hw es
  simp only [Go.choose, Sem.run, Sem.runT]
  by_cases hq : q.forced = true
  · rw [if_pos hq, if_pos hq]
    exact fun _ => ⟨R₁, 0, w', #[], by rw [Array.append_empty], Ext.refl _ _ _ _, hw, rfl, by simp⟩
  · rw [if_neg hq, if_neg hq]
    intro hlt
    obtain ⟨k1, k2⟩ := hw.draw hlt
    exact ⟨R₁, q.cut (w'.tape w'.drawn q), { w' with drawn := w'.drawn + 1 }, #[], by rw [Array.append_empty], k1.1, k1.2, by rw [k2], by simp⟩
theorem Sim.noRoom : Sim ok T Fz FL FC R (fun _ _ _ => True) (mark .noRoom) (mark .noRoom) := by
  intro R₁ hR w w' hw es
  refine fun _ => ⟨R₁, (), w', #[⟨.mark .noRoom, false, true⟩], by rw [Array.append_singleton]; rfl, Ext.refl _ _ _ _, hw, trivial, ?_⟩
  intro x hx; simp at hx; subst hx; exact rfl
theorem Sim.markExtern (f : FuncId) : Sim ok T Fz FL FC R (fun _ _ _ => True) (mark (.extern f)) (mark (.extern f)) := by
  intro R₁ hR w w' hw es
  refine fun _ => ⟨R₁, (), w', #[⟨.mark (.extern f), false, true⟩], by rw [Array.append_singleton]; rfl, Ext.refl _ _ _ _, hw, trivial, ?_⟩
  intro x hx; simp at hx; subst hx; exact rfl
theorem Sim.askRoom (n : Nat) : Sim ok T Fz FL FC R (fun _ _ _ => True) (Go.askRoom n) (Go.askRoom n) := by
  unfold Go.askRoom
  exact .ite Iff.rfl (fun _ => .noRoom) (fun _ => .pure fun _ _ => trivial)

/-! ### types -/
abbrev Same : Ren → α → α → Prop := fun _ a a' => a' = a
theorem Sim.same {a : α} : Sim ok T Fz FL FC R Same (Pure.pure a) (Pure.pure a) := .pure fun _ _ => rfl
theorem Sim.underlying (t : TypeId) : Sim ok T Fz FL FC R (fun _ d d' => d' = d ∧ (prg T #[]).underlying t = some d) (Go.underlying t) (Go.underlying t) := by
  unfold Go.underlying
  refine .program ?_
  have e1 : (prg T FL).underlying t = (prg T #[]).underlying t := rfl
  have e2 : (prg T FC).underlying t = (prg T #[]).underlying t := rfl
  rw [e1, e2]
  cases (prg T #[]).underlying t with
  | some d => exact .pure fun _ _ => ⟨rfl, rfl⟩
  | none => exact .stuck
theorem Sim.typeInfo (t : TypeId) : Sim ok T Fz FL FC R (fun _ d d' => d' = d ∧ T.info? t = some d) (Go.typeInfo t) (Go.typeInfo t) := by
  unfold Go.typeInfo
  refine .program ?_
  cases h : T.info? t with
  | some d => exact .pure fun _ _ => ⟨rfl, rfl⟩
  | none => exact .stuck
theorem Sim.sizeOf (t : TypeId) : Sim ok T Fz FL FC R Same (Go.sizeOf t) (Go.sizeOf t) := by
  unfold Go.sizeOf
  exact (Sim.typeInfo t).bind fun R₁ _ a a' h => by rw [h.1]; exact .same
theorem Sim.isAgg (t : TypeId) : Sim ok T Fz FL FC R Same (Go.isAgg t) (Go.isAgg t) := by
  unfold Go.isAgg
  refine (Sim.underlying t).bind fun R₁ _ a a' h => ?_
  rw [h.1]
  split <;> exact .same
theorem Sim.zeroValue {t : TypeId} (h : okZero ok T t = true) : Sim ok T Fz FL FC R (VRel ok) (Go.zeroValue t) (Go.zeroValue t) := by
  unfold Go.zeroValue
  refine (Sim.typeInfo t).bind fun R₁ _ a a' k => ?_
  rw [k.1]
  unfold okZero at h
  rw [k.2] at h
  cases hz : a.zero with
  | some v =>
    simp only [hz, Option.all_some] at h
    exact .val (flat_rel _ _ _ h)
  | none => exact .unsup (by simp)

/-! ### variables -/
theorem Sim.loadCellsFrom : ∀ (n i : Nat) {a a' : Addr} {R : Ren} (_ : ARel ok R a a') {c c' : Array Value} (_ : Rows ok R c c'),
    Sim ok T Fz FL FC R (Rows ok) (Go.loadCellsFrom a i n c) (Go.loadCellsFrom a' i n c') := by
  intro n
  induction n with
  | zero => intro i a a' R ha c c' hc; exact .pure fun _ k => hc.mono k
  | succ n ih =>
    intro i a a' R ha c c' hc
    unfold Go.loadCellsFrom
    exact (Sim.load (ha.add i)).bind fun R₁ k v v' hv => ih (i + 1) (ha.mono k) ((hc.mono k).push hv)
theorem Sim.loadCells {a a' : Addr} (ha : ARel ok R a a') (n : Nat) : Sim ok T Fz FL FC R (Rows ok) (Go.loadCells a n) (Go.loadCells a' n) := Sim.loadCellsFrom n 0 ha .empty
theorem Sim.storeCells : ∀ {l l' : List Value} {R : Ren} (_ : LRel (VRel ok R) l l') (i : Nat) {a a' : Addr} (_ : ARel ok R a a'),
    Sim ok T Fz FL FC R (fun _ _ _ => True) (Go.storeCells a l i) (Go.storeCells a' l' i) := by
  intro l
  induction l with
  | nil => intro l' R h i a a' ha; cases h; exact .pure fun _ _ => trivial
  | cons v l ih =>
    intro l' R h i a a' ha
    cases h with
    | cons hv h =>
      unfold Go.storeCells
      exact (Sim.store (ha.add i) hv).bind fun R₁ k _ _ _ => ih (h.imp fun _ _ x => x.mono k) (i + 1) (ha.mono k)
theorem Sim.loadVar (t : TypeId) {a a' : Addr} (ha : ARel ok R a a') : Sim ok T Fz FL FC R (VRel ok) (Go.loadVar t a) (Go.loadVar t a') := by
  unfold Go.loadVar
  refine (Sim.isAgg t).bind fun R₁ k b b' e => ?_
  subst e
  split
  · refine (Sim.sizeOf t).bind fun R₂ k2 n n' e => ?_
    subst e
    exact (Sim.loadCells (ha.mono (k.trans k2)) n').bind fun R₃ k3 c c' hc => .val (.aggR hc)
  · exact Sim.load (ha.mono k)
theorem Sim.storeVar (t : TypeId) {a a' : Addr} (ha : ARel ok R a a') {v v' : Value} (hv : VRel ok R v v') : Sim ok T Fz FL FC R (fun _ _ _ => True) (Go.storeVar t a v) (Go.storeVar t a' v') := by
  unfold Go.storeVar
  refine (Sim.sizeOf t).bind fun R₁ k n n' e => ?_
  subst e
  have hs := (Rows.cells hv).1
  rw [hs]
  split
  · exact Sim.bindHalt fun R₂ _ w w' _ => ⟨_, _, rfl, trivial, by simp⟩
  · exact Sim.storeCells ((Rows.cells (hv.mono k)).toList) 0 (ha.mono k)
theorem Sim.newRow (e : TypeId) {c c' : Array Value} (hc : Rows ok R c c') : Sim ok T Fz FL FC R (ARel ok) (Go.newRow e c) (Go.newRow e c') := by
  unfold Go.newRow
  exact (Sim.newFresh (.cells e _ hc)).bind fun R₁ k r r' hr => .pure fun R₂ k2 => ⟨k2 _ _ hr.1, by show 0 = 0 + ok.sh r; rw [hr.2], rfl⟩
theorem Sim.newVar (t : TypeId) {v v' : Value} (hv : VRel ok R v v') : Sim ok T Fz FL FC R (ARel ok) (Go.newVar t v) (Go.newVar t v') := Sim.newRow t (Rows.cells hv)
theorem Sim.part (t : TypeId) {c c' : Array Value} (hc : Rows ok R c c') (off : Nat) : Sim ok T Fz FL FC R (VRel ok) (Go.part t c off) (Go.part t c' off) := by
  unfold Go.part
  refine (Sim.isAgg t).bind fun R₁ k b b' e => ?_
  subst e
  split
  · refine (Sim.sizeOf t).bind fun R₂ k2 n n' e => ?_
    subst e
    exact .val (.aggR ((hc.mono (k.trans k2)).extract _ _))
  · cases h : c[off]? with
    | some v =>
      obtain ⟨v', h', hv⟩ := (hc.mono k).get h
      rw [h']
      exact .val hv
    | none => exact .stuck

/-! ### numbers, bools, places -/
theorem Sim.asIntOf {v v' : Value} (hv : VRel ok R v v') : Sim ok T Fz FL FC R Same (Go.asIntOf v) (Go.asIntOf v') := by
  cases hv <;> first | exact .same | exact .stuck | exact .unsup (by simp)
theorem Sim.asInt {v v' : Value} (hv : VRel ok R v v') : Sim ok T Fz FL FC R Same (Go.asInt v) (Go.asInt v') := by
  unfold Go.asInt
  exact (Sim.asIntOf hv).bind fun R₁ _ a a' h => by subst h; exact .same
theorem Sim.asBool {v v' : Value} (hv : VRel ok R v v') : Sim ok T Fz FL FC R Same (Go.asBool v) (Go.asBool v') := by
  cases hv <;> first | exact .same | exact .stuck
theorem Sim.asAgg {v v' : Value} (hv : VRel ok R v v') : Sim ok T Fz FL FC R (Rows ok) (Go.asAgg v) (Go.asAgg v') := by
  cases hv with
  | agg s k => exact .pure fun _ x => Rows.mono x ⟨s, k⟩
  | _ => exact .stuck
theorem Sim.sureAddr {v v' : Value} (hv : VRel ok R v v') : Sim ok T Fz FL FC R (ARel ok) (Instr.sureAddr v) (Instr.sureAddr v') := by
  cases hv with
  | ptr k => exact .pure fun _ x => k.mono x
  | _ => exact .stuck

/-! ### panics of the run-time system -/
/-- Those whose value holds no place of memory. -/
def plainErr : RuntimeError → Bool
  | .bounds .. | .error _ | .plain _ | .nilDeref => true
  | _ => false
theorem Sim.runtimePanic {e : RuntimeError} (h : plainErr e = true) {A : Ren → α → β → Prop} : Sim ok T Fz FL FC R A (Go.runtimePanic e : Sem α) (Go.runtimePanic e : Sem β) := by
  unfold Go.runtimePanic
  refine .program ?_
  cases e <;> first
    | (cases h; done)
    | exact .panic (flat_rel R 12 _ (by simp [flat, strVal]))
theorem Sim.boundsPanic (k : IntKind) (x y : Int) (c : BoundsCode) {A : Ren → α → β → Prop} : Sim ok T Fz FL FC R A (Go.boundsPanic k x y c : Sem α) (Go.boundsPanic k x y c : Sem β) := by
  unfold Go.boundsPanic
  split
  · refine Sim.bind (A := Same) ?_ fun R₁ _ a a' h => by subst h; exact .runtimePanic (by rfl)
    show Sim ok T Fz FL FC R Same (Go.choose _ >>= fun n => Pure.pure (n == 1)) (Go.choose _ >>= fun n => Pure.pure (n == 1))
    exact (Sim.choose _).bind fun R₁ _ a a' h => by subst h; exact .same
  · exact Sim.bind (A := Same) .same fun R₁ _ a a' h => by subst h; exact .runtimePanic (by rfl)
theorem Sim.asAddr {v v' : Value} (hv : VRel ok R v v') : Sim ok T Fz FL FC R (ARel ok) (Go.asAddr v) (Go.asAddr v') := by
  cases hv with
  | ptr k => exact .pure fun _ x => k.mono x
  | nilPtr => exact Sim.runtimePanic (e := .nilDeref) rfl
  | _ => exact .stuck
end
end Go.Proofs.Ytgkakgibgfehaaa.Sim
