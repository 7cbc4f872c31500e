/-
  Steps that came in: rows of the exact statements' own steps and fractions, and their sizes.
  eqStepS of equal rows of steps of any kind. It writes into no memory that was there.
-/
import Derived.Test.YtafnmongglhlaaaGrpC
import Derived.Test.YtafnmongglhlaaaGrpK
import Derived.Deep.SlicePairs
import Derived.Deep.Slices
import Derived.Test.YtafnmongglhlaaaGrpS
namespace Go.Proofs.Ytafnmongglhlaaa
open Go.RowKit Go.ChangeShapes Go.WideShapes Go.Deep

/-- A slice of fractions that came in. -/
def FrR (w : World) (a : Option Addr) (len cap : Nat) (cs : List Fr) : Prop :=
  cs.length = len ∧ len ≤ maxLen ∧ ((a = none ∧ len = 0 ∧ cap = 0) ∨ ∃ x, a = some x ∧ len ≤ cap ∧ ∀ i, i < len → w.cell? (x.add (i * 2)) = some (.int .i64 (fAt cs i).1) ∧ w.cell? (x.add (i * 2 + 1)) = some (.int .i64 (fAt cs i).2))
theorem FrR.fr {w : World} {a : Option Addr} {len cap : Nat} {cs : List Fr} (h : FrR w a len cap cs) (hl : len ≤ 1048600) : IsFr w a len cap cs := by
  obtain ⟨h1, _, h⟩ := h
  rcases h with ⟨rfl, rfl, rfl⟩ | ⟨⟨b, off, spot⟩, rfl, hc, h4⟩
  · exact ⟨h1, Nat.le_refl _, by omega, fun h => by omega⟩
  · refine ⟨h1, hc, hl, fun hp => ?_⟩
    have h0 := (h4 0 hp).1
    have hs : spot = none := by simpa [Addr.add] using World.cell?_spot h0
    subst hs
    refine ⟨b, off, rfl, World.block_lt_of_cell? w _ h0, fun j hj => ?_⟩
    have := h4 j hj
    rw [add_spot, add_spot] at this
    exact this
theorem FrR.below {w w' : World} {a : Option Addr} {len cap : Nat} {cs : List Fr} (h : FrR w a len cap cs) (hb : Below w.heap.size w w') : FrR w' a len cap cs := by
  obtain ⟨h1, h2, h⟩ := h
  refine ⟨h1, h2, ?_⟩
  rcases h with h | ⟨x, e, hc, h4⟩
  · exact .inl h
  · exact .inr ⟨x, e, hc, fun i hi => ⟨(hb.cell (World.block_lt_of_cell? w _ (h4 i hi).1)).trans (h4 i hi).1, (hb.cell (World.block_lt_of_cell? w _ (h4 i hi).2)).trans (h4 i hi).2⟩⟩
/-- Steps whose counts may be longer than what is looked at. -/
def IsGR (w : World) (a : Option Addr) (len cap : Nat) (ss : List GSt) : Prop :=
  ss.length = len ∧ len ≤ cap ∧ len ≤ 1048600 ∧ (0 < len → ∃ b off, a = some ⟨b, off, none⟩ ∧ b < w.heap.size ∧
    ∀ j s, ss[j]? = some s → ∃ aj lj cj, w.cell? ⟨b, off + j * 3, none⟩ = some (.slice aj lj cj) ∧ w.cell? ⟨b, off + j * 3 + 1, none⟩ = some (.int .i64 s.2.1) ∧ w.cell? ⟨b, off + j * 3 + 2, none⟩ = some (.int .i64 s.2.2) ∧ FrR w aj lj cj s.1)
theorem IsGR.below {w w' : World} {a : Option Addr} {len cap : Nat} {ss : List GSt} (h : IsGR w a len cap ss) (hb : Below w.heap.size w w') : IsGR w' a len cap ss := by
  obtain ⟨h1, h2, h3, h4⟩ := h
  refine ⟨h1, h2, h3, fun hl => ?_⟩
  obtain ⟨b, off, e, hlt, hc⟩ := h4 hl
  refine ⟨b, off, e, Nat.lt_of_lt_of_le hlt hb.size, fun j s hs => ?_⟩
  obtain ⟨aj, lj, cj, k1, k2, k3, k4⟩ := hc j s hs
  exact ⟨aj, lj, cj, (hb.cell (p := ⟨b, off + j * 3, none⟩) hlt).trans k1, (hb.cell (p := ⟨b, off + j * 3 + 1, none⟩) hlt).trans k2, (hb.cell (p := ⟨b, off + j * 3 + 2, none⟩) hlt).trans k3, k4.below hb⟩
theorem IsGR.at {w : World} {a : Option Addr} {len cap : Nat} {ss : List GSt} (h : IsGR w a len cap ss) {j : Nat} {s : GSt} (hs : ss[j]? = some s) : ∃ b off aj lj cj, a = some ⟨b, off, none⟩ ∧ b < w.heap.size ∧ w.cell? ⟨b, off + j * 3, none⟩ = some (.slice aj lj cj) ∧ w.cell? ⟨b, off + j * 3 + 1, none⟩ = some (.int .i64 s.2.1) ∧ w.cell? ⟨b, off + j * 3 + 2, none⟩ = some (.int .i64 s.2.2) ∧ FrR w aj lj cj s.1 := by
  have hj := (List.getElem?_eq_some_iff.1 hs).1
  obtain ⟨b, off, e, hlt, hc⟩ := h.2.2.2 (by have := h.1; omega)
  obtain ⟨aj, lj, cj, k1, k2, k3, k4⟩ := hc j s hs
  exact ⟨b, off, aj, lj, cj, e, hlt, k1, k2, k3, k4⟩
theorem IsGR.g {w : World} {a : Option Addr} {len cap : Nat} {ss : List GSt} (h : IsGR w a len cap ss) (hl : ∀ s ∈ ss, s.1.length ≤ 1048600) : IsG w a len cap ss := by
  obtain ⟨h1, h2, h3, h4⟩ := h
  refine ⟨h1, h2, h3, fun hp => ?_⟩
  obtain ⟨b, off, e, hlt, hc⟩ := h4 hp
  refine ⟨b, off, e, hlt, fun j s hs => ?_⟩
  obtain ⟨aj, lj, cj, k1, k2, k3, k4⟩ := hc j s hs
  exact ⟨aj, lj, cj, k1, k2, k3, k4.fr (by rw [← k4.1]; exact hl s (List.mem_of_getElem? hs))⟩
/-- A slice of steps that came in. -/
def IsSRow (w : World) (a : Option Addr) (len cap : Nat) (ss : List GSt) : Prop :=
  ss.length = len ∧ len ≤ maxLen ∧ ((a = none ∧ len = 0 ∧ cap = 0) ∨ ∃ x, a = some x ∧ len ≤ cap ∧ ∀ j s, ss[j]? = some s → ∃ aj lj cj, w.cell? (x.add (j * 3)) = some (.slice aj lj cj) ∧ w.cell? (x.add (j * 3 + 1)) = some (.int .i64 s.2.1) ∧ w.cell? (x.add (j * 3 + 2)) = some (.int .i64 s.2.2) ∧ FrR w aj lj cj s.1)
theorem IsSRow.r {w : World} {a : Option Addr} {len cap : Nat} {ss : List GSt} (h : IsSRow w a len cap ss) (hl : len ≤ 1048600) : IsGR w a len cap ss := by
  obtain ⟨h1, _, h⟩ := h
  rcases h with ⟨rfl, rfl, rfl⟩ | ⟨⟨b, off, spot⟩, rfl, hc, h4⟩
  · exact ⟨h1, Nat.le_refl _, by omega, fun h => by omega⟩
  · refine ⟨h1, hc, hl, fun hp => ?_⟩
    obtain ⟨s0, hs0⟩ : ∃ s, ss[0]? = some s := ⟨_, List.getElem?_eq_getElem (by omega)⟩
    obtain ⟨_, _, _, h0, _⟩ := h4 0 s0 hs0
    have hs : spot = none := by simpa [Addr.add] using World.cell?_spot h0
    subst hs
    refine ⟨b, off, rfl, World.block_lt_of_cell? w _ h0, fun j s hj => ?_⟩
    have := h4 j s hj
    rw [add_spot, add_spot, add_spot] at this
    exact this

set_option maxHeartbeats 1000000 in
/-- **szFracS**. -/
theorem szFracS_any (a : Option Addr) (len cap : Nat) (L : Int) (w : World) (hm : len ≤ maxLen) (hL : 0 ≤ L ∧ L ≤ 1048576) :
    Calls Try.prog 98 #[.slice a len cap, .int .i64 L] w fun e w' => ∃ v : Int, e = .returned (.int .i64 v) ∧ (0 ≤ v → v ≤ L ∧ len ≤ 1048576) ∧ v ≤ L ∧ -1 ≤ v ∧ w = w' := by
  have hsz : (len : Int) ≤ 9223372036854775807 := by unfold maxLen at hm; omega
  have hw : IntKind.i64.wrap (L - (len : Int)) = L - (len : Int) := IntWalk.i64_in _ (by omega)
  by_cases hneg : L - (len : Int) < 0
  · have hd : decide (L - (len : Int) < 0) = true := decide_eq_true hneg
    go_enter Try.func98, Try.ntmps98
    go_wp2
    go_ret
    exact ⟨-1, rfl, fun h => by omega, by omega, by omega, rfl⟩
  · have hd : decide (L - (len : Int) < 0) = false := decide_eq_false hneg
    go_enter Try.func98, Try.ntmps98
    go_wp2
    go_ret
    exact ⟨_, rfl, fun h => ⟨by omega, by omega⟩, by omega, by omega, rfl⟩
set_option maxHeartbeats 1000000 in
/-- **szStep**. -/
theorem szStep_any (a : Option Addr) (len cap : Nat) (x k L : Int) (w : World) (hm : len ≤ maxLen) (hL : 0 ≤ L ∧ L ≤ 1048576) :
    Calls Try.prog 63 #[.agg #[.slice a len cap, .int .i64 x, .int .i64 k], .int .i64 L] w fun e w' => ∃ v : Int, e = .returned (.int .i64 v) ∧ (0 ≤ v → v ≤ L ∧ len ≤ 1048576) ∧ v ≤ L ∧ -1 ≤ v ∧ Below w.heap.size w w' := by
  have hB : Below w.heap.size w (w.alloc (.cells #[.slice a len cap, .int .i64 x, .int .i64 k] 93)) := (Below.refl _ w).alloc (Nat.le_refl _) _
  go_enter Try.func63, Try.ntmps63
  go_wp2_with fail
  refine (szFracS_any a len cap L _ hm hL).mono ?_
  rintro e w1 ⟨v, rfl, h1, h2, h3, rfl⟩
  by_cases hneg : v < 0
  · have hd : decide (v < 0) = true := decide_eq_true hneg
    go_wp2
    go_ret
    exact ⟨-1, rfl, fun h => by omega, by omega, by omega, hB⟩
  · have hd : decide (v < 0) = false := decide_eq_false hneg
    go_wp2
    go_ret
    exact ⟨v, rfl, h1, h2, h3, hB⟩
set_option maxRecDepth 100000 in
set_option maxHeartbeats 2000000 in
/-- **szStepS**: not negative only where every step has at most 1048576 counts. -/
theorem szStepS_any (a : Option Addr) (len cap : Nat) (ss : List GSt) (L : Int) (w : World) (h : IsGR w a len cap ss) (hL : 0 ≤ L ∧ L ≤ 1048576) :
    Calls Try.prog 32 #[.slice a len cap, .int .i64 L] w fun e w' => ∃ v : Int, e = .returned (.int .i64 v) ∧ (0 ≤ v → v ≤ 1048576 ∧ ∀ s ∈ ss, s.1.length ≤ 1048600) ∧ -1 ≤ v ∧ Below w.heap.size w w' := by
  have HI := Lib.hid h
  have H1 := Lib.hid h.1
  have hm := h.2.2.1
  obtain ⟨G, hG⟩ : ∃ G, w.heap.size = G := ⟨_, rfl⟩
  clear h
  have hw : IntKind.i64.wrap (L - (len : Int)) = L - (len : Int) := IntWalk.i64_in _ (by omega)
  by_cases hneg : L - (len : Int) < 0
  · have hd : decide (L - (len : Int) < 0) = true := decide_eq_true hneg
    go_enter Try.func32, Try.ntmps32
    go_wp2
    go_ret
    exact ⟨-1, rfl, fun h => by omega, by omega, Below.refl _ _⟩
  · have hd : decide (L - (len : Int) < 0) = false := decide_eq_false hneg
    go_enter Try.func32, Try.ntmps32
    go_wp2
    go_loopw [1, 5] (fun l i wr => ∃ (k : Nat) (x : Int), k ≤ len ∧ i = .int .i64 k ∧ l = .int .i64 x ∧ 0 ≤ x ∧ x ≤ 1048576 ∧ Hid (∀ j s, j < k → ss[j]? = some s → s.1.length ≤ 1048600) ∧ Below G w wr) (fun _ i _ => len - (intOf i).toNat)
    case atStart => exact ⟨0, _, Nat.zero_le _, rfl, rfl, by omega, by omega, fun j s hj => by omega, Below.refl _ _⟩
    case round =>
      obtain ⟨k, x, hk, rfl, rfl, hx0, hx1, hA, hB⟩ := hrel
      have hBw : Below w.heap.size w wr := hG.symm ▸ hB
      by_cases hlt : k < len
      · obtain ⟨⟨cs, p, q⟩, hst⟩ : ∃ st, ss[k]? = some st := ⟨_, List.getElem?_eq_getElem (by rw [H1.out]; exact hlt)⟩
        obtain ⟨b, off, aj, lj, cj, rfl, hb, c0, c1, c2, f⟩ := (HI.out.below hBw).at hst
        have c1 : wr.cell? ⟨b, off + k * 3 + 1, none⟩ = some (.int .i64 p) := c1
        have c2 : wr.cell? ⟨b, off + k * 3 + 2, none⟩ = some (.int .i64 q) := c2
        have hki : (k : Int) < (len : Int) := by omega
        have hcl : Hid (cs.length = lj) := f.1
        have hfm := f.2.1
        have HST := Lib.hid hst
        clear f hst
        go_wp2_with fail
        refine (szStep_any aj lj cj p q x _ hfm ⟨hx0, hx1⟩).mono ?_
        rintro e w1 ⟨v, rfl, hv, hvL, hv1, hb1⟩
        have B1 : Below G w w1 := hB.trans (hb1.mono (by have := hBw.size; omega))
        by_cases hvn : v < 0
        · have hd2 : decide (v < 0) = true := decide_eq_true hvn
          go_wp2
          go_ret
          exact ⟨-1, rfl, fun h => by omega, by omega, hG.symm ▸ B1⟩
        · have hd2 : decide (v < 0) = false := decide_eq_false hvn
          have hv2 := hv (by omega)
          have HA2 : Hid (∀ j s, j < k + 1 → ss[j]? = some s → s.1.length ≤ 1048600) := fun j s hj hs => by
            rcases Nat.lt_or_ge j k with g | g
            · exact hA.out j s g hs
            · have : j = k := by omega
              subst this
              rw [HST.out] at hs
              injection hs with hs
              subst hs
              show cs.length ≤ 1048600
              rw [hcl.out]; omega
          clear hv
          go_wp2
          go_roundw
          case rel => exact ⟨k + 1, v, by omega, by go_num, rfl, by omega, by omega, HA2, B1⟩
          case measure => simp [intOf]; omega
      · obtain rfl : k = len := by omega
        go_wp2
        go_ret
        refine ⟨x, rfl, fun _ => ⟨hx1, fun s hs => ?_⟩, by omega, hBw⟩
        obtain ⟨j, hj, e⟩ := List.mem_iff_getElem.1 hs
        exact hA.out j s (by rw [← H1.out]; exact hj) (by rw [List.getElem?_eq_getElem hj, e])
set_option maxHeartbeats 1000000 in
/-- **szStepS**, of a longer slice. -/
theorem szStepS_long (a : Option Addr) (len cap : Nat) (L : Int) (w : World) (hl : 1048576 < len) (hm : len ≤ maxLen) (hL : 0 ≤ L ∧ L ≤ 1048576) :
    Calls Try.prog 32 #[.slice a len cap, .int .i64 L] w fun e w' => e = .returned (.int .i64 (-1)) ∧ w = w' := by
  have hsz : (len : Int) ≤ 9223372036854775807 := by unfold maxLen at hm; omega
  have hw : IntKind.i64.wrap (L - (len : Int)) = L - (len : Int) := IntWalk.i64_in _ (by omega)
  have hd : decide (L - (len : Int) < 0) = true := decide_eq_true (by omega)
  go_enter Try.func32, Try.ntmps32
  go_wp2
  go_ret
  exact ⟨rfl, rfl⟩

theorem step_fieldsT : Try.prog.underlying 93 = some (.struct #[(Try.prog.fieldsOf 93)[0]!, (Try.prog.fieldsOf 93)[1]!, (Try.prog.fieldsOf 93)[2]!]) := by kernel_rfl
theorem frac_fieldsT : Try.prog.underlying 156 = some (.struct #[(Try.prog.fieldsOf 156)[0]!, (Try.prog.fieldsOf 156)[1]!]) := by kernel_rfl
set_option maxRecDepth 100000 in
theorem open_frow {H : Type} {enc : TypeId × Value → H} {W : World} {base : Nat} {spare : Nat → Bool} {held : Bool} {fuel : Nat} {cs : List Value} {x : DataW H × List MemPlace}
    (hf : DataW.trod enc Try.prog W base spare held fuel 91 cs = some x) : ∃ a len cap fs, cs = [.slice a len cap] ∧ FrR W a len cap fs := by
  rcases open_slice_pairs Try.underlying91 frac_fieldsT (by kernel_rfl) (by kernel_rfl) (by kernel_rfl) (by kernel_rfl) (by kernel_rfl) hf with ⟨h0, _⟩ | ⟨ad, l, c, m, n, V0, V1, D0, D1, P0, P1, h0, _, hl, hm, hmm, _, hi⟩
  · exact ⟨none, 0, 0, [], h0, rfl, by unfold maxLen; omega, .inl ⟨rfl, rfl, rfl⟩⟩
  · have hlm : l ≤ m := by rw [hmm]; split <;> omega
    have ft0 : ((Try.prog.fieldsOf 156)[0]!).type = 3 := by kernel_rfl
    have ft1 : ((Try.prog.fieldsOf 156)[1]!).type = 3 := by kernel_rfl
    have hs : ∀ i, i < l → ∃ k : Int, V0 i = .int .i64 k := fun i hil => by
      have h2 := (hi i (by omega)).2.2.1
      rw [ft0] at h2
      obtain ⟨k, e, _, _⟩ := DataW.trod_int Try.underlying3 h2
      injection e with e _
      exact ⟨k, e⟩
    have hn : ∀ i, i < l → ∃ k : Int, V1 i = .int .i64 k := fun i hil => by
      have h2 := (hi i (by omega)).2.2.2
      rw [ft1] at h2
      obtain ⟨k, e, _, _⟩ := DataW.trod_int Try.underlying3 h2
      injection e with e _
      exact ⟨k, e⟩
    refine ⟨some ad, l, c, (List.range l).map fun i => (intOf (V0 i), intOf (V1 i)), h0, by simp, by omega, .inr ⟨ad, rfl, hl, fun i hil => ?_⟩⟩
    obtain ⟨k, e⟩ := hs i hil
    obtain ⟨k', e'⟩ := hn i hil
    have t1 : fAt ((List.range l).map fun i => (intOf (V0 i), intOf (V1 i))) i = (k, k') := by simp [fAt, hil, e, e', intOf]
    rw [t1, ← e, ← e']
    exact ⟨(hi i (by omega)).1, (hi i (by omega)).2.1⟩
set_option maxRecDepth 100000 in
theorem open_srow {H : Type} {enc : TypeId × Value → H} {W : World} {base : Nat} {spare : Nat → Bool} {held : Bool} {fuel : Nat} {cs : List Value} {x : DataW H × List MemPlace} {a : Option Addr} {len cap : Nat} (hcs : cs = [.slice a len cap])
    (hf : DataW.trod enc Try.prog W base spare held fuel 54 cs = some x) : ∃ ss, IsSRow W a len cap ss := by
  rcases open_slice Try.underlying54 hf with ⟨h0, _⟩ | ⟨ad, l, c, m, n, D, P, h0, _, hl, hm, hmm, _, hi⟩
  · rw [hcs] at h0
    injection h0 with h0 _
    injection h0 with e1 e2 e3
    subst e1; subst e2; subst e3
    exact ⟨[], rfl, by unfold maxLen; omega, .inl ⟨rfl, rfl, rfl⟩⟩
  · rw [hcs] at h0
    injection h0 with h0 _
    injection h0 with e1 e2 e3
    subst e1; subst e2; subst e3
    have hlm : len ≤ m := by rw [hmm]; split <;> omega
    have ce : Try.prog.cellsOf 93 = 3 := by kernel_rfl
    have ft0 : ((Try.prog.fieldsOf 93)[0]!).type = 91 := by kernel_rfl
    have ft1 : ((Try.prog.fieldsOf 93)[1]!).type = 3 := by kernel_rfl
    have ft2 : ((Try.prog.fieldsOf 93)[2]!).type = 3 := by kernel_rfl
    have o0 : ((Try.prog.fieldsOf 93)[0]!).offset = 0 := by kernel_rfl
    have o1 : ((Try.prog.fieldsOf 93)[1]!).offset = 1 := by kernel_rfl
    have o2 : ((Try.prog.fieldsOf 93)[2]!).offset = 2 := by kernel_rfl
    have c0 : Try.prog.cellsOf ((Try.prog.fieldsOf 93)[0]!).type = 1 := by kernel_rfl
    have c1 : Try.prog.cellsOf ((Try.prog.fieldsOf 93)[1]!).type = 1 := by kernel_rfl
    have c2 : Try.prog.cellsOf ((Try.prog.fieldsOf 93)[2]!).type = 1 := by kernel_rfl
    have each : ∀ i, i < len → ∃ s : GSt, ∃ aj lj cj, W.cell? (ad.add (i * 3)) = some (.slice aj lj cj) ∧ W.cell? (ad.add (i * 3 + 1)) = some (.int .i64 s.2.1) ∧ W.cell? (ad.add (i * 3 + 2)) = some (.int .i64 s.2.2) ∧ FrR W aj lj cj s.1 := by
      intro i hil
      obtain ⟨cs', h1, h2⟩ := hi i (by omega)
      rw [ce] at h1
      obtain ⟨_, hlen, hcell⟩ := World.cells?_some h1
      obtain ⟨xs, k, hk, hxy, _, hxl, hf⟩ := DataW.trod_struct step_fieldsT h2
      match xs, hxl, cs', hlen with
      | [y0, y1, y2], _, [v0, v1, v2], _ =>
        have g0 := hf 0 _ rfl
        have g1 := hf 1 _ rfl
        have g2 := hf 2 _ rfl
        simp [o0, o1, o2, c0, c1, c2] at g0 g1 g2
        have e0 := hcell 0 (by omega)
        have e1 := hcell 1 (by omega)
        have e2 := hcell 2 (by omega)
        rw [add_add] at e0 e1 e2
        rw [ft0] at g0
        rw [ft1] at g1
        rw [ft2] at g2
        obtain ⟨aj, lj, cj, fs, e, hfr⟩ := open_frow g0
        injection e with e _
        obtain ⟨p, e', _, _⟩ := DataW.trod_int Try.underlying3 g1
        injection e' with e' _
        obtain ⟨q, e'', _, _⟩ := DataW.trod_int Try.underlying3 g2
        injection e'' with e'' _
        subst e; subst e'; subst e''
        exact ⟨(fs, p, q), aj, lj, cj, by simpa using e0, by simpa using e1, by simpa using e2, hfr⟩
    obtain ⟨Q, hQ⟩ := choose_lt each
    refine ⟨(List.range len).map Q, by simp, by omega, .inr ⟨ad, rfl, hl, fun j s hs => ?_⟩⟩
    have hj : j < len := by have := (List.getElem?_eq_some_iff.1 hs).1; simpa using this
    have e : s = Q j := by
      rw [List.getElem?_map, List.getElem?_range hj] at hs
      injection hs with hs
      exact hs.symm
    rw [e]
    exact hQ j hj

end Go.Proofs.Ytafnmongglhlaaa

namespace Go.Proofs.Ytafnmongglhlaaa
open Go.RowKit

attribute [local go_sem] Oper.semAt_some

set_option maxRecDepth 100000 in
set_option maxHeartbeats 2000000 in
/-- **eqStepS** of equal rows of steps, each of n counts. -/
theorem eqStepG_self (a : Option Addr) (len cap : Nat) (ss : List GSt) (b : Option Addr) (cap' : Nat) (w : World) (h : IsG w a len cap ss) (h' : IsG w b len cap' ss) :
    Calls Try.prog 38 #[.slice a len cap, .slice b len cap'] w fun e w' => e = .returned (.bool true) ∧ Below w.heap.size w w' := by
  obtain ⟨G, hG⟩ : ∃ G, w.heap.size = G := ⟨_, rfl⟩
  have H1 := Lib.hid h
  have H2 := Lib.hid h'
  have hlm := h.2.2.1
  have hsl := h.1
  have hnn : ((len : Int) != (len : Int)) = false := by simp
  clear h h'
  go_enter Try.func38, Try.ntmps38
  go_wp2
  go_loopw [5] (fun iv wr => ∃ j : Nat, j ≤ len ∧ iv = .int .i64 (j : Int) ∧ Hid (Below G w wr)) (fun iv _ => len - (intOf iv).toNat)
  case atStart => exact ⟨0, Nat.zero_le _, rfl, hG ▸ Below.refl _ _⟩
  case round =>
    obtain ⟨j, hj, rfl, hB⟩ := hrel
    have hBw : Below w.heap.size w wr := hG.symm ▸ hB.out
    by_cases hlt : j < len
    · obtain ⟨⟨cs, x, k⟩, hst⟩ : ∃ st, ss[j]? = some st := ⟨_, List.getElem?_eq_getElem (by omega)⟩
      obtain ⟨b1, o1, a1, l1, c1, rfl, hl1, k0, k1, k2, f1⟩ := (H1.out.below hBw).at hst
      obtain ⟨b2, o2, a2, l2, c2, rfl, hl2, m0, m1, m2, f2⟩ := (H2.out.below hBw).at hst
      have k1 : wr.cell? ⟨b1, o1 + j * 3 + 1, none⟩ = some (.int .i64 x) := k1
      have k2 : wr.cell? ⟨b1, o1 + j * 3 + 2, none⟩ = some (.int .i64 k) := k2
      have m1 : wr.cell? ⟨b2, o2 + j * 3 + 1, none⟩ = some (.int .i64 x) := m1
      have m2 : wr.cell? ⟨b2, o2 + j * 3 + 2, none⟩ = some (.int .i64 k) := m2
      have e12 : l1 = l2 := f1.1.symm.trans f2.1
      subst e12
      have u0 : ∀ u : Beh wr, u.w.cell? ⟨b1, o1 + j * 3, none⟩ = _ := Beh.cell k0 hl1
      have u1 : ∀ u : Beh wr, u.w.cell? ⟨b1, o1 + j * 3 + 1, none⟩ = _ := Beh.cell k1 hl1
      have u2 : ∀ u : Beh wr, u.w.cell? ⟨b1, o1 + j * 3 + 2, none⟩ = _ := Beh.cell k2 hl1
      have u3 : ∀ u : Beh wr, u.w.cell? ⟨b2, o2 + j * 3, none⟩ = _ := Beh.cell m0 hl2
      have u4 : ∀ u : Beh wr, u.w.cell? ⟨b2, o2 + j * 3 + 1, none⟩ = _ := Beh.cell m1 hl2
      have u5 : ∀ u : Beh wr, u.w.cell? ⟨b2, o2 + j * 3 + 2, none⟩ = _ := Beh.cell m2 hl2
      have hji : (j : Int) < (len : Int) := by omega
      have F1 := Lib.hid f1
      have F2 := Lib.hid f2
      clear k0 k1 k2 m0 m1 m2 f1 f2 hst
      go_wp2_with fail
      refine wp_region_below_tail 8 (by kernel_rfl) (by kernel_rfl) ?_
      simp only [List.take_succ_cons, List.take_zero, List.drop_succ_cons, List.drop_zero]
      repeat (go_big_quiet_step (fail))
      refine wpQuiet_nil ?_
      rintro w8 ⟨⟨_, hb8'⟩, he⟩
      have hb8 : Below wr.heap.size wr w8 := by rw [he]; exact hb8'
      have B8 : Hid (Below G w w8) := hG ▸ below_on hBw hb8
      have F18 := Lib.hid (F1.out.below hb8)
      have F28 := Lib.hid (F2.out.below hb8)
      clear he hb8' u0 u1 u2 u3 u4 u5 hb8 hBw hB F1 F2
      go_wp2_with fail
      refine (eqStep_self a1 l1 c1 cs a2 c2 x k _ F18.out F28.out).mono ?_
      rintro e w9 ⟨rfl, hb9⟩
      have B9 : Hid (Below G w w9) := hG ▸ below_on (hG.symm ▸ B8.out : Below w.heap.size w w8) hb9
      clear hb9 B8 F18 F28
      go_wp2
      go_roundw
      case rel => exact ⟨j + 1, by omega, by go_num, B9⟩
      case measure => simp [intOf]; omega
    · obtain rfl : j = len := by omega
      go_wp2
      go_ret
      exact ⟨rfl, hBw⟩

end Go.Proofs.Ytafnmongglhlaaa
