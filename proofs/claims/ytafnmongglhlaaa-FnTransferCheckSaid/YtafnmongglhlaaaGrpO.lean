/-
  Steps of any kind in a call's own memory: a row of them that is changed in one place. Of no function.
  DrawTransferCheck: the draw of a transfer and of steps, of which one may be another one. No condition but that the code is short enough.
-/
import Derived.Test.YtafnmongglhlaaaGrpK
import Derived.Test.YtafnmongglhlaaaGrp14
import Derived.Test.YtafnmongglhlaaaGrp21
import Derived.Test.YtafnmongglhlaaaGrp20
import Derived.Test.YtafnmongglhlaaaGrpF
import Derived.Deep.RegionHeld3
namespace Go.Proofs.Ytafnmongglhlaaa
open Go.RowKit

/-- The cells of steps; each one's counts are n fractions in the block that G names. -/
def cellsG (n : Nat) : List (Nat × Nat) → List GSt → List Value
  | g :: gs, s :: ss => .slice (some ⟨g.1, 0, none⟩) n g.2 :: .int .i64 s.2.1 :: .int .i64 s.2.2 :: cellsG n gs ss
  | _, _ => []
theorem cellsG_of : ∀ (n : Nat) (gs : List (Nat × Nat)) (ss : List TfStp), cellsS n gs ss = cellsG n gs (ss.map toG)
  | _, [], [] => rfl
  | _, [], _ :: _ => rfl
  | _, _ :: _, [] => rfl
  | n, g :: gs, s :: ss => by
    rw [cellsS, List.map_cons, cellsG, cellsG_of n gs ss]; rfl
theorem cellsG_at : ∀ (n : Nat) (gs : List (Nat × Nat)) (ss : List GSt) (j : Nat) (g : Nat × Nat) (s : GSt), gs.length = ss.length → gs[j]? = some g → ss[j]? = some s → (cellsG n gs ss)[j * 3]? = some (.slice (some ⟨g.1, 0, none⟩) n g.2) ∧ (cellsG n gs ss)[j * 3 + 1]? = some (.int .i64 s.2.1) ∧ (cellsG n gs ss)[j * 3 + 2]? = some (.int .i64 s.2.2)
  | _, [], _, j, _, _, _, hg, _ => by simp at hg
  | _, _ :: _, [], j, _, _, h, _, _ => by simp at h
  | n, a :: gs, b :: ss, 0, g, s, h, hg, hs => by
    obtain rfl : a = g := by simpa using hg
    obtain rfl : b = s := by simpa using hs
    exact ⟨rfl, rfl, rfl⟩
  | n, a :: gs, b :: ss, j + 1, g, s, h, hg, hs => by
    have := cellsG_at n gs ss j g s (by simpa using h) (by simpa using hg) (by simpa using hs)
    rw [show (j + 1) * 3 = j * 3 + 1 + 1 + 1 by omega]
    simp only [cellsG]
    rw [List.getElem?_cons_succ, List.getElem?_cons_succ, List.getElem?_cons_succ, show j * 3 + 1 + 1 + 1 + 1 = (j * 3 + 1) + 1 + 1 + 1 by omega, List.getElem?_cons_succ, List.getElem?_cons_succ, List.getElem?_cons_succ, show j * 3 + 1 + 1 + 1 + 2 = (j * 3 + 2) + 1 + 1 + 1 by omega, List.getElem?_cons_succ, List.getElem?_cons_succ, List.getElem?_cons_succ]
    exact this
theorem cellsG_who : ∀ (n : Nat) (gs : List (Nat × Nat)) (ss : List GSt) (k : Nat) (s : GSt) (x : Int), ss[k]? = some s → (cellsG n gs ss).set (k * 3 + 1) (.int .i64 x) = cellsG n gs (ss.set k (s.1, x, s.2.2))
  | n, [], ss, k, s, x, _ => by
    cases ss with
    | nil => rfl
    | cons b ss => cases k <;> rfl
  | n, _ :: _, [], k, s, x, h => by simp at h
  | n, a :: gs, b :: ss, 0, s, x, h => by
    obtain rfl : b = s := by simpa using h
    rfl
  | n, a :: gs, b :: ss, k + 1, s, x, h => by
    have := cellsG_who n gs ss k s x (by simpa using h)
    rw [cellsG, show (k + 1) * 3 + 1 = (k * 3 + 1) + 1 + 1 + 1 by omega, List.set_cons_succ, List.set_cons_succ, List.set_cons_succ, this, List.set_cons_succ, cellsG]
theorem cellsG_kind : ∀ (n : Nat) (gs : List (Nat × Nat)) (ss : List GSt) (k : Nat) (s : GSt) (x : Int), ss[k]? = some s → (cellsG n gs ss).set (k * 3 + 2) (.int .i64 x) = cellsG n gs (ss.set k (s.1, s.2.1, x))
  | n, [], ss, k, s, x, _ => by
    cases ss with
    | nil => rfl
    | cons b ss => cases k <;> rfl
  | n, _ :: _, [], k, s, x, h => by simp at h
  | n, a :: gs, b :: ss, 0, s, x, h => by
    obtain rfl : b = s := by simpa using h
    rfl
  | n, a :: gs, b :: ss, k + 1, s, x, h => by
    have := cellsG_kind n gs ss k s x (by simpa using h)
    rw [cellsG, show (k + 1) * 3 + 2 = (k * 3 + 2) + 1 + 1 + 1 by omega, List.set_cons_succ, List.set_cons_succ, List.set_cons_succ, this, List.set_cons_succ, cellsG]
theorem cellsG_row : ∀ (n : Nat) (gs : List (Nat × Nat)) (ss : List GSt) (k : Nat) (s : GSt) (cs : List Fr), ss[k]? = some s → cellsG n gs (ss.set k (cs, s.2.1, s.2.2)) = cellsG n gs ss
  | n, [], ss, k, s, x, _ => by
    cases ss with
    | nil => rfl
    | cons b ss => cases k <;> rfl
  | n, _ :: _, [], k, s, x, h => by simp at h
  | n, a :: gs, b :: ss, 0, s, x, h => by
    obtain rfl : b = s := by simpa using h
    rfl
  | n, a :: gs, b :: ss, k + 1, s, x, h => by
    have := cellsG_row n gs ss k s x (by simpa using h)
    rw [List.set_cons_succ, cellsG, this, cellsG]

/-- Steps of any kind in memory of a call's own. -/
structure OwnG (w : World) (base : Nat) (a : Option Addr) (cap n : Nat) (gs : List (Nat × Nat)) (ss : List GSt) : Prop where
  len : gs.length = ss.length
  outer : w.ownsRow base 35 3 (.slice a ss.length cap) ss.length (cellsG n gs ss)
  inner : ∀ (j : Nat) (g : Nat × Nat) (s : GSt), gs[j]? = some g → ss[j]? = some s → w.ownsRow base 40 2 (.slice (some ⟨g.1, 0, none⟩) n g.2) n (cellsF s.1)
  apart : (gs.map fun g => g.1).Nodup
theorem OwnSt.own {w : World} {base cap n : Nat} {a : Option Addr} {gs : List (Nat × Nat)} {ss : List TfStp} (h : OwnSt w base a cap n gs ss) : OwnG w base a cap n gs (ss.map toG) :=
  ⟨by rw [List.length_map]; exact h.len, by rw [List.length_map, ← cellsG_of]; exact h.outer, fun j g s h1 h2 => by
    rw [List.getElem?_map] at h2
    cases hq : ss[j]? with
    | none => rw [hq] at h2; cases h2
    | some t =>
      rw [hq] at h2
      injection h2 with h2
      subst h2
      exact h.inner j g t h1 hq, h.apart⟩
theorem OwnG.is {w : World} {base cap n : Nat} {a : Option Addr} {gs : List (Nat × Nat)} {ss : List GSt} (h : OwnG w base a cap n gs ss) (hl : ss.length ≤ 1048600) (hn : n ≤ 1048600) : IsG w a ss.length cap ss := by
  have ho := h.outer
  rcases ho.2 with ⟨e1, e0⟩ | ⟨g, c, cur, e1, hb, hg, hcap, hmax, hcur, htake⟩
  · injection e1 with e1 e2 e3
    exact ⟨rfl, by omega, hl, fun hp => by omega⟩
  · injection e1 with e1 e2 e3
    subst e1
    subst e3
    refine ⟨rfl, hcap, hl, fun hp => ⟨g, 0, rfl, (ho.lt g rfl).2, fun j s hs => ?_⟩⟩
    have hj : j < ss.length := by
      by_cases q : j < ss.length
      · exact q
      · rw [List.getElem?_eq_none (by omega)] at hs; cases hs
    have hgs : gs[j]? = some (gs[j]'(by rw [h.len]; exact hj)) := List.getElem?_eq_getElem _
    obtain ⟨k1, k2, k3⟩ := cellsG_at n gs ss j _ s h.len hgs hs
    refine ⟨_, n, _, ?_, ?_, ?_, IsFr.of_owned (h.inner j _ s hgs hs) hn⟩
    · rw [Nat.zero_add, ho.cellAt (j * 3) (by omega)]; exact k1
    · rw [Nat.zero_add, ho.cellAt (j * 3 + 1) (by omega)]; exact k2
    · rw [Nat.zero_add, ho.cellAt (j * 3 + 2) (by omega)]; exact k3
theorem OwnG.step {w w' : World} {base cap n R : Nat} {a : Option Addr} {gs : List (Nat × Nat)} {ss : List GSt} (h : OwnG w base a cap n gs ss) (hs : Step R w w') (hR : R < base) : OwnG w' base a cap n gs ss :=
  ⟨h.len, owns_step h.outer hs hR, fun j g s h1 h2 => owns_step (h.inner j g s h1 h2) hs hR, h.apart⟩
theorem OwnG.low {w : World} {base base' cap n : Nat} {a : Option Addr} {gs : List (Nat × Nat)} {ss : List GSt} (h : OwnG w base a cap n gs ss) (hb : base' ≤ base) : OwnG w base' a cap n gs ss :=
  ⟨h.len, World.ownsRow.mono h.outer hb, fun j g s h1 h2 => World.ownsRow.mono (h.inner j g s h1 h2) hb, h.apart⟩
/-- The block of a row of steps that is not empty. -/
theorem OwnG.blk {w : World} {base cap n : Nat} {a : Option Addr} {gs : List (Nat × Nat)} {ss : List GSt} (h : OwnG w base a cap n gs ss) (hl : 0 < ss.length) : ∃ g, a = some ⟨g, 0, none⟩ ∧ base ≤ g ∧ g < w.heap.size := by
  rcases h.outer.2 with ⟨e1, e0⟩ | ⟨g, c, cur, e1, hb, hg, _⟩
  · injection e1 with e1 e2 e3; omega
  · injection e1 with e1 e2 e3
    subst e1
    exact ⟨g, rfl, (h.outer.lt g rfl).1, (h.outer.lt g rfl).2⟩
section
variable {w : World} {base cap n g0 : Nat} {gs : List (Nat × Nat)} {ss : List GSt}
theorem OwnG.apartO (h : OwnG w base (some ⟨g0, 0, none⟩) cap n gs ss) {j : Nat} {g : Nat × Nat} {s : GSt} (h1 : gs[j]? = some g) (h2 : ss[j]? = some s) : g.1 ≠ g0 := by
  have := owns_apart (by decide) (h.inner j g s h1 h2) h.outer
  rcases this with e | e
  · cases e
  · intro q
    exact e (by rw [show (Value.slice (some ⟨g.1, 0, none⟩) n g.2).ownBlock = some g.1 from rfl, q]; rfl)
/-- Another candidate in one place. -/
theorem OwnG.setWho (h : OwnG w base (some ⟨g0, 0, none⟩) cap n gs ss) {k : Nat} {s : GSt} (hk : ss[k]? = some s) (x : Int) : OwnG (w.setCell ⟨g0, k * 3 + 1, none⟩ (.int .i64 x)) base (some ⟨g0, 0, none⟩) cap n gs (ss.set k (s.1, x, s.2.2)) ∧ w.grownBy (w.setCell ⟨g0, k * 3 + 1, none⟩ (.int .i64 x)) (some g0) := by
  have h1 := h.outer.stored (k * 3 + 1) (.int .i64 x)
  rw [cellsG_who _ _ _ _ _ _ hk] at h1
  refine ⟨⟨by rw [List.length_set]; exact h.len, by rw [List.length_set]; exact h1.1, fun j g t a1 a2 => ?_, h.apart⟩, h1.2⟩
  by_cases e : k = j
  · subst e
    have hkl := (List.getElem?_eq_some_iff.1 hk).1
    rw [List.getElem?_set_self hkl] at a2
    injection a2 with a2
    subst a2
    exact (h.inner k g s a1 hk).kept h1.2 (.inr (by intro q; injection q with q; exact h.apartO a1 hk q))
  · rw [List.getElem?_set_ne e] at a2
    exact (h.inner j g t a1 a2).kept h1.2 (.inr (by intro q; injection q with q; exact h.apartO a1 a2 q))
/-- Another kind in one place. -/
theorem OwnG.setKind (h : OwnG w base (some ⟨g0, 0, none⟩) cap n gs ss) {k : Nat} {s : GSt} (hk : ss[k]? = some s) (x : Int) : OwnG (w.setCell ⟨g0, k * 3 + 2, none⟩ (.int .i64 x)) base (some ⟨g0, 0, none⟩) cap n gs (ss.set k (s.1, s.2.1, x)) ∧ w.grownBy (w.setCell ⟨g0, k * 3 + 2, none⟩ (.int .i64 x)) (some g0) := by
  have h1 := h.outer.stored (k * 3 + 2) (.int .i64 x)
  rw [cellsG_kind _ _ _ _ _ _ hk] at h1
  refine ⟨⟨by rw [List.length_set]; exact h.len, by rw [List.length_set]; exact h1.1, fun j g t a1 a2 => ?_, h.apart⟩, h1.2⟩
  by_cases e : k = j
  · subst e
    have hkl := (List.getElem?_eq_some_iff.1 hk).1
    rw [List.getElem?_set_self hkl] at a2
    injection a2 with a2
    subst a2
    exact (h.inner k g s a1 hk).kept h1.2 (.inr (by intro q; injection q with q; exact h.apartO a1 hk q))
  · rw [List.getElem?_set_ne e] at a2
    exact (h.inner j g t a1 a2).kept h1.2 (.inr (by intro q; injection q with q; exact h.apartO a1 a2 q))
/-- Another count in one place. -/
theorem OwnG.setRow (h : OwnG w base (some ⟨g0, 0, none⟩) cap n gs ss) {k : Nat} {s : GSt} {g : Nat × Nat} (hk : ss[k]? = some s) (hg : gs[k]? = some g) (i : Nat) (x y : Int) : OwnG ((w.setCell ⟨g.1, i * 2, none⟩ (.int .i64 x)).setCell ⟨g.1, i * 2 + 1, none⟩ (.int .i64 y)) base (some ⟨g0, 0, none⟩) cap n gs (ss.set k (s.1.set i (x, y), s.2.1, s.2.2)) ∧ w.grownBy ((w.setCell ⟨g.1, i * 2, none⟩ (.int .i64 x)).setCell ⟨g.1, i * 2 + 1, none⟩ (.int .i64 y)) (some g.1) := by
  obtain ⟨h1, h2⟩ := owns_setF (h.inner k g s hg hk) i x y
  have hkl := (List.getElem?_eq_some_iff.1 hk).1
  refine ⟨⟨by rw [List.length_set]; exact h.len, ?_, fun j g' t a1 a2 => ?_, h.apart⟩, h2⟩
  · rw [List.length_set, cellsG_row _ _ _ _ _ _ hk]
    exact h.outer.kept h2 (.inr (by intro q; injection q with q; exact h.apartO hg hk q.symm))
  · by_cases e : k = j
    · subst e
      rw [List.getElem?_set_self hkl] at a2
      injection a2 with a2
      subst a2
      rw [hg] at a1
      injection a1 with a1
      subst a1
      exact h1
    · rw [List.getElem?_set_ne e] at a2
      refine (h.inner j g' t a1 a2).kept h2 (.inr (by
        intro q
        injection q with q
        have q : g'.1 = g.1 := q
        obtain ⟨hk2, ek⟩ := List.getElem?_eq_some_iff.1 hg
        obtain ⟨hj2, ej⟩ := List.getElem?_eq_some_iff.1 a1
        have hp := List.pairwise_iff_getElem.1 h.apart
        have m1 : (gs.map fun g => g.1)[k]'(by simpa using hk2) = g.1 := by rw [List.getElem_map, ek]
        have m2 : (gs.map fun g => g.1)[j]'(by simpa using hj2) = g'.1 := by rw [List.getElem_map, ej]
        rcases Nat.lt_or_gt_of_ne e with l | l
        · exact hp k j (by simpa using hk2) (by simpa using hj2) l (by rw [m1, m2, q])
        · exact hp j k (by simpa using hj2) (by simpa using hk2) l (by rw [m1, m2, q])))
end
/-- The first of some steps. -/
theorem IsG.take {w : World} {a : Option Addr} {len cap : Nat} {ss : List GSt} (h : IsG w a len cap ss) {k : Nat} (hk : k ≤ len) : IsG w a k cap (ss.take k) := by
  obtain ⟨h1, h2, h3, h4⟩ := h
  refine ⟨by rw [List.length_take]; omega, by omega, by omega, fun hl => ?_⟩
  obtain ⟨b, off, e, hlt, hc⟩ := h4 (by omega)
  refine ⟨b, off, e, hlt, fun j s hs => hc j s ?_⟩
  rw [List.getElem?_take] at hs
  split at hs
  · exact hs
  · cases hs

end Go.Proofs.Ytafnmongglhlaaa

namespace Go.Proofs.Ytafnmongglhlaaa
open Go.RowKit

def DrewC (w : World) (e : Ending) (w' : World) : Prop := ∃ (ps : List Pl) (g cap : Nat) (lots : List Int) (a : Option Addr) (c s : Nat) (b : Option Addr) (l cb : Nat) (ys : List GSt), e = .returned (.tuple #[.slice (some ⟨g, 0, none⟩) ps.length cap, .slice a lots.length c, .int .i64 (s : Int), .slice b l cb]) ∧
  HasP w w' ps g cap ∧ pilesB ps = true ∧ w'.ownsRow w.heap.size 3 1 (.slice a lots.length c) lots.length (lots.map (Value.int .i64)) ∧ lots.length ≤ 5 ∧ s ≤ 4 ∧ IsG w' b l cb ys ∧ Below w.heap.size w w'
theorem owns_off {w : World} {base n size B g0 : Nat} {e : TypeId} {v : Value} {xs : List Value} (_h : w.ownsRow base e size v n xs) (hB : B ≤ g0) (hv : ∀ k, v.ownBlock = some k → k < B) : v.ownBlock = none ∨ v.ownBlock ≠ some g0 := by
  cases hb : v.ownBlock with
  | none => exact .inl rfl
  | some k => have := hv k hb; right; intro e2; cases e2; omega

set_option maxRecDepth 100000 in
set_option maxHeartbeats 8000000 in
/-- **DrawTransferCheck**. -/
theorem drawTfCheck_any (a : Option Addr) (len cap : Nat) (bs : List Int) (w : World) (h : IsBytes w a len bs) (hcap : len ≤ cap) (hl : len ≤ 1048600) :
    Calls Try.prog 28 #[.slice a len cap] w (DrewC w) := by
  have H := Lib.hid h; clear h
  go_enter Try.func28, Try.ntmps28
  go_wp2_with fail
  refine (open_any a len cap bs _ H.out hcap hl).mono ?_
  rintro e w1 ⟨rfl, hr, hb⟩
  have hw1 := hr.1
  go_wp2_with fail
  refine (l93Transfer_any w.heap.size _ hr).mono ?_
  rintro e w2 ⟨ps, g, c, lots, a2, c2, s, p2, rfl, ho, hv, hol, hl5, hs4, hr2, hp2, hs⟩
  have hsz12 := hs.size
  have HLT1 := ho.lt g rfl
  have HLG : Hid (∀ k, (Value.slice a2 lots.length c2).ownBlock = some k → k < w2.heap.size) := fun k e => (hol.lt k e).2
  have HO := Lib.hid ho
  have HL := Lib.hid hol
  have HB := Lib.hid (hb.trans (hs.below (Nat.le_refl _) (Nat.le_of_lt hw1)))
  have HV := Lib.hid hv
  have HR2 := Lib.hid hr2
  have HP := Lib.hid (IsPiles.of_owned ho (by have := (pilesB_pos hv).2.2.2.2; omega))
  have HI := Lib.hid (IsInts.of_owned hol (by omega))
  obtain ⟨n, hn⟩ : ∃ n, lots.length = n := ⟨_, rfl⟩
  rw [hn] at HL HLG HI hl5
  rw [hn]
  have HN := Lib.hid hn
  obtain ⟨tv, htv⟩ : ∃ tv, transB ps lots (s : Int) = tv := ⟨_, rfl⟩
  obtain ⟨all, hall⟩ : ∃ all, tfAll ps lots (s : Int) = all := ⟨_, rfl⟩
  have ha5 : all.length ≤ 5 := by rw [← hall]; exact tfAll_short _ _ _
  have hne : all.length ≠ 0 → 1 ≤ n := fun h0 => by
    have := lotsB_len (transB_iff ps lots (s : Int) |>.1 (by
      cases hq : transB ps lots (s : Int)
      · exact absurd (by rw [← hall, tfAll_no hq]; rfl) h0
      · rfl)).1
    omega
  have HNE := Lib.hid hne
  have HT := Lib.hid htv
  have HA := Lib.hid hall
  clear ho hol hb hs hv hr hr2 hn htv hall hne
  go_wp2_with fail
  refine (specSteps_as _ _ _ ps _ n c2 lots (s : Int) all tv _ HP.out (small_valid HV.out) HI.out HT.out HA.out).mono ?_
  rintro e w3 ⟨a3, c3, gs, rfl, hO, hb⟩
  have HR1 : Hid (w.heap.size < w1.heap.size ∧ w1.heap.size ≤ w2.heap.size) := ⟨hw1, hsz12⟩
  have HO := Lib.hid (owns_under HO.out hb)
  have HL := Lib.hid (owns_under HL.out hb)
  have HB : Hid (Below w.heap.size w w3) := HB.out.trans (hb.mono HB.out.size)
  have HR3 := Lib.hid (HR2.out.below hb)
  have OG := Lib.hid hO.own
  obtain ⟨ys, hys⟩ : ∃ ys, all.map toG = ys := ⟨_, rfl⟩
  have hyl : ys.length = all.length := by rw [← hys, List.length_map]
  rw [hys] at OG
  have hb3 := hb.size
  clear hb hO hys HP HI HT HA HR2
  by_cases hz : all.length = 0
  · have hz0 : decide ((0 : Int) < (all.length : Int)) = false := decide_eq_false (by omega)
    have hz1 : decide (0 < all.length) = false := decide_eq_false (by omega)
    have HYL := Lib.hid hyl
    clear hz hyl
    have HGF : Hid (IsG w3 a3 all.length c3 (ys)) := HYL.out ▸ OG.out.is (by rw [HYL.out]; omega) (by omega)
    go_wp2
    refine bodyPost_ret (v := .tuple #[.slice (some ⟨g, 0, none⟩) ps.length c, .slice a2 n c2, .int .i64 (s : Int), .slice a3 all.length c3]) (by simp [results, Try.results28, go_sem]) rfl ?_
    exact ⟨ps, g, c, lots, a2, c2, s, a3, all.length, c3, ys, by rw [HN.out], ⟨HO.out.mono (Nat.le_of_lt HR1.out.1), small_valid HV.out, few_valid HV.out, by have := (pilesB_pos HV.out).2.2.2.2; omega⟩, HV.out, by rw [HN.out]; exact HL.out.mono (Nat.le_of_lt HR1.out.1), by rw [HN.out]; exact hl5, hs4, HGF.out, HB.out⟩
  · have hz0 : decide ((0 : Int) < (all.length : Int)) = true := decide_eq_true (by omega)
    have hz1 : decide (0 < all.length) = true := decide_eq_true (by omega)
    have hn1 := HNE.out hz
    obtain ⟨g0, rfl, hg0, hgz⟩ := OG.out.blk (by rw [hyl]; omega)
    have HYL := Lib.hid hyl
    have HBG : Hid (w2.heap.size ≤ g0) := hg0
    have HGG : Hid (g < g0) := by have := HLT1.2; unfold Hid; omega
    have HRG : Hid (w.heap.size < w2.heap.size) := by have := HR1.out; unfold Hid; omega
    go_wp2_with fail
    refine (pick_any w.heap.size p2 (all.length : Int) _ HR3.out (by omega) (by omega) (by omega)).mono ?_
    rintro e w4 ⟨k, rfl, hk, hr, hs⟩
    have HO := Lib.hid (owns_step HO.out hs HR1.out.1)
    have HL := Lib.hid (owns_step HL.out hs HR1.out.1)
    have OG := Lib.hid (OG.out.step hs HRG.out)
    have HB : Hid (Below w.heap.size w w4) := HB.out.trans (hs.below (Nat.le_refl _) HB.out.size)
    have hgz : g0 < w4.heap.size := Nat.lt_of_lt_of_le hgz hs.size
    have HR4 := Lib.hid hr
    clear hr hs HR3
    go_wp2_with fail
    refine (pick_any w.heap.size (p2 + 1) 8 _ HR4.out (by omega) (by omega) (by omega)).mono ?_
    rintro e w5 ⟨d, rfl, hd, hr, hs⟩
    have HO := Lib.hid (owns_step HO.out hs HR1.out.1)
    have HL := Lib.hid (owns_step HL.out hs HR1.out.1)
    have OG := Lib.hid (OG.out.step hs HRG.out)
    have HB : Hid (Below w.heap.size w w5) := HB.out.trans (hs.below (Nat.le_refl _) HB.out.size)
    have hgz : g0 < w5.heap.size := Nat.lt_of_lt_of_le hgz hs.size
    have HR5 := Lib.hid hr
    clear hr hs HR4
    obtain ⟨⟨cs, x, kk⟩, hyk⟩ : ∃ st, ys[k]? = some st := ⟨_, List.getElem?_eq_getElem (by rw [HYL.out]; omega)⟩
    obtain ⟨⟨gk, ck⟩, hgk⟩ : ∃ st, gs[k]? = some st := ⟨_, List.getElem?_eq_getElem (by rw [OG.out.len, HYL.out]; omega)⟩
    have hki : (k : Int) < (all.length : Int) := hk
    have hkn : k < all.length := by omega
    have h1 := OG.out.outer.cellAt
    clear h1
    by_cases d0 : d = 0
    · subst d0
      go_wp2_with fail
      refine (pick_any w.heap.size (p2 + 1 + 1) 6 _ HR5.out (by omega) (by omega) (by omega)).mono ?_
      rintro e w6 ⟨u, rfl, hu, hr, hs⟩
      have HO := Lib.hid (owns_step HO.out hs HR1.out.1)
      have HL := Lib.hid (owns_step HL.out hs HR1.out.1)
      have OG := Lib.hid (OG.out.step hs HRG.out)
      have HB : Hid (Below w.heap.size w w6) := HB.out.trans (hs.below (Nat.le_refl _) HB.out.size)
      have hgz : g0 < w6.heap.size := Nat.lt_of_lt_of_le hgz hs.size
      have hw : IntKind.i64.wrap ((u : Int) - 1) = (u : Int) - 1 := IntWalk.i64_in _ (by omega)
      clear hr hs
      obtain ⟨OG2, GR⟩ := OG.out.setWho hyk ((u : Int) - 1)
      have kc := (OG.out.outer.cellAt (k * 3 + 1) (by have := HYL.out; omega)).trans (cellsG_at n gs ys k _ _ OG.out.len hgk hyk).2.1
      have kf := OG.out.outer.frozenAt (k * 3 + 1)
      have HO := Lib.hid (HO.out.kept GR (.inr (by intro q; injection q with q; have q : g = g0 := q; have := HGG.out; omega)))
      have HL := Lib.hid (HL.out.kept GR (owns_off HL.out (by have := HBG.out; omega) HLG.out))
      have HB : Hid (Below w.heap.size w _) := HB.out.setCell (p := ⟨g0, k * 3 + 1, none⟩) (by have := HBG.out; have := HR1.out; show w.heap.size ≤ g0; omega) (.int .i64 ((u : Int) - 1))
      have OG := Lib.hid OG2
      clear GR OG2
      have HGF : Hid (IsG (w6.setCell ⟨g0, k * 3 + 1, none⟩ (.int .i64 ((u : Int) - 1))) (some ⟨g0, 0, none⟩) all.length c3 (ys.set k (cs, (u : Int) - 1, kk))) := by have h1 := OG.out.is (by rw [List.length_set, HYL.out]; omega) (by omega); rw [List.length_set, HYL.out] at h1; exact h1
      go_wp2
      refine bodyPost_ret (v := .tuple #[.slice (some ⟨g, 0, none⟩) ps.length c, .slice a2 n c2, .int .i64 (s : Int), .slice (some ⟨g0, 0, none⟩) all.length c3]) (by simp [results, Try.results28, go_sem]) rfl ?_
      exact ⟨ps, g, c, lots, a2, c2, s, (some ⟨g0, 0, none⟩), all.length, c3, ys.set k (cs, (u : Int) - 1, kk), by rw [HN.out], ⟨HO.out.mono (Nat.le_of_lt HR1.out.1), small_valid HV.out, few_valid HV.out, by have := (pilesB_pos HV.out).2.2.2.2; omega⟩, HV.out, by rw [HN.out]; exact HL.out.mono (Nat.le_of_lt HR1.out.1), by rw [HN.out]; exact hl5, hs4, HGF.out, HB.out⟩
    by_cases d1 : d = 1
    · subst d1
      go_wp2_with fail
      refine (pick_any w.heap.size (p2 + 1 + 1) 5 _ HR5.out (by omega) (by omega) (by omega)).mono ?_
      rintro e w6 ⟨u, rfl, hu, hr, hs⟩
      have HO := Lib.hid (owns_step HO.out hs HR1.out.1)
      have HL := Lib.hid (owns_step HL.out hs HR1.out.1)
      have OG := Lib.hid (OG.out.step hs HRG.out)
      have HB : Hid (Below w.heap.size w w6) := HB.out.trans (hs.below (Nat.le_refl _) HB.out.size)
      have hgz : g0 < w6.heap.size := Nat.lt_of_lt_of_le hgz hs.size
      clear hr hs
      obtain ⟨OG2, GR⟩ := OG.out.setKind hyk ((u : Int))
      have kc := (OG.out.outer.cellAt (k * 3 + 2) (by have := HYL.out; omega)).trans (cellsG_at n gs ys k _ _ OG.out.len hgk hyk).2.2
      have kf := OG.out.outer.frozenAt (k * 3 + 2)
      have HO := Lib.hid (HO.out.kept GR (.inr (by intro q; injection q with q; have q : g = g0 := q; have := HGG.out; omega)))
      have HL := Lib.hid (HL.out.kept GR (owns_off HL.out (by have := HBG.out; omega) HLG.out))
      have HB : Hid (Below w.heap.size w _) := HB.out.setCell (p := ⟨g0, k * 3 + 2, none⟩) (by have := HBG.out; have := HR1.out; show w.heap.size ≤ g0; omega) (.int .i64 ((u : Int)))
      have OG := Lib.hid OG2
      clear GR OG2
      have HGF : Hid (IsG (w6.setCell ⟨g0, k * 3 + 2, none⟩ (.int .i64 (u : Int))) (some ⟨g0, 0, none⟩) all.length c3 (ys.set k (cs, x, (u : Int)))) := by have h1 := OG.out.is (by rw [List.length_set, HYL.out]; omega) (by omega); rw [List.length_set, HYL.out] at h1; exact h1
      go_wp2
      refine bodyPost_ret (v := .tuple #[.slice (some ⟨g, 0, none⟩) ps.length c, .slice a2 n c2, .int .i64 (s : Int), .slice (some ⟨g0, 0, none⟩) all.length c3]) (by simp [results, Try.results28, go_sem]) rfl ?_
      exact ⟨ps, g, c, lots, a2, c2, s, (some ⟨g0, 0, none⟩), all.length, c3, ys.set k (cs, x, (u : Int)), by rw [HN.out], ⟨HO.out.mono (Nat.le_of_lt HR1.out.1), small_valid HV.out, few_valid HV.out, by have := (pilesB_pos HV.out).2.2.2.2; omega⟩, HV.out, by rw [HN.out]; exact HL.out.mono (Nat.le_of_lt HR1.out.1), by rw [HN.out]; exact hl5, hs4, HGF.out, HB.out⟩
    by_cases d2 : d = 2
    · subst d2
      have hc3 : all.length ≤ c3 := by have h1 := (OG.out.is (by rw [HYL.out]; omega) (by omega)).2.1; rw [HYL.out] at h1; exact h1
      have hkc : k ≤ c3 := by omega
      have hkci : (k : Int) ≤ (c3 : Int) := by omega
      have hk0 : (0 : Int) ≤ (k : Int) := by omega
      have HGF : Hid (IsG w5 (some ⟨g0, 0, none⟩) k c3 (ys.take k)) := by have h1 := OG.out.is (by rw [HYL.out]; omega) (by omega); exact h1.take (by rw [HYL.out]; omega)
      go_wp2
      refine bodyPost_ret (v := .tuple #[.slice (some ⟨g, 0, none⟩) ps.length c, .slice a2 n c2, .int .i64 (s : Int), .slice (some ⟨g0, 0, none⟩) k c3]) (by simp [results, Try.results28, go_sem]) rfl ?_
      exact ⟨ps, g, c, lots, a2, c2, s, (some ⟨g0, 0, none⟩), k, c3, ys.take k, by rw [HN.out], ⟨HO.out.mono (Nat.le_of_lt HR1.out.1), small_valid HV.out, few_valid HV.out, by have := (pilesB_pos HV.out).2.2.2.2; omega⟩, HV.out, by rw [HN.out]; exact HL.out.mono (Nat.le_of_lt HR1.out.1), by rw [HN.out]; exact hl5, hs4, HGF.out, HB.out⟩
    have e0 : ((d : Int) == 0) = false := beq_eq_false_iff_ne.2 (by omega)
    have e1 : ((d : Int) == 1) = false := beq_eq_false_iff_ne.2 (by omega)
    have e2 : ((d : Int) == 2) = false := beq_eq_false_iff_ne.2 (by omega)
    by_cases d3 : d = 3
    · have e3 : ((d : Int) == 3) = true := by rw [d3]; rfl
      clear d0 d1 d2 d3
      have z0 : w5.cell? ⟨g0, k * 3, none⟩ = some (.slice (some ⟨gk, 0, none⟩) n ck) := (OG.out.outer.cellAt (k * 3) (by have := HYL.out; omega)).trans (cellsG_at n gs ys k _ _ OG.out.len hgk hyk).1
      have hn0 : (0 : Int) < (n : Int) := by omega
      have hn0n : 0 < n := by omega
      have NGK : Hid (gk ≠ g0) := OG.out.apartO hgk hyk
      go_wp2_with fail
      go_region_held3 (fun w' => w'.cell? ⟨g0, k * 3, none⟩ = some (.slice (some ⟨gk, 0, none⟩) n ck)) (go_keep)
        (first | (go_at_call 59; refine (l93_any w.heap.size (p2 + 1 + 1) _ (HR5.out.below (by first | exact Below.refl _ _ | exact (Below.refl _ _).drew)) (by omega)).mono ?_; rintro e w6 ⟨x1, y1, rfl, hr, hs0⟩; have hs : Step w.heap.size w5 w6 := (by first | exact hs0 | exact Step.of_drew hs0); have HO := Lib.hid (owns_step HO.out hs HR1.out.1); have HL := Lib.hid (owns_step HL.out hs HR1.out.1); have OG := Lib.hid (OG.out.step hs HRG.out); have HB : Hid (Below w.heap.size w w6) := HB.out.trans (hs.below (Nat.le_refl _) HB.out.size); have z0 := (OG.out.outer.cellAt (k * 3) (by have := HYL.out; omega)).trans (cellsG_at n gs ys k _ _ OG.out.len hgk hyk).1; have mm := meets_setF (OG.out.inner k (gk, ck) (cs, x, kk) hgk hyk) (k := 0) (by omega) (.int .i64 x1); rw [Nat.zero_mul, Nat.zero_add] at mm; obtain ⟨⟨z1, z2⟩, z3, z4⟩ := mm; have z9 : ((w6.setCell ⟨gk, 0, none⟩ (.int .i64 x1)).setCell ⟨gk, 1, none⟩ (.int .i64 y1)).cell? ⟨g0, k * 3, none⟩ = some (.slice (some ⟨gk, 0, none⟩) n ck) := by { rw [World.cell?_setCell_other _ _ _ _ (by intro e; injection e with e; exact NGK.out e), World.cell?_setCell_other _ _ _ _ (by intro e; injection e with e; exact NGK.out e)]; exact z0 }; clear hr hs0 hs))
      all_goals
        obtain ⟨OG2, GR⟩ := OG.out.setRow hyk hgk 0 x1 y1
        rw [Nat.zero_mul, Nat.zero_add] at OG2 GR
        have hgkb := ((OG.out.inner k _ _ hgk hyk).lt gk rfl).1
        have HO := Lib.hid (HO.out.kept GR (.inr (by intro q; injection q with q; have q : g = gk := q; have := HLT1.2; omega)))
        have HL := Lib.hid (HL.out.kept GR (owns_off HL.out hgkb HLG.out))
        have HB : Hid (Below w.heap.size w ((w6.setCell ⟨gk, 0, none⟩ (.int .i64 x1)).setCell ⟨gk, 1, none⟩ (.int .i64 y1))) := (HB.out.setCell (p := ⟨gk, 0, none⟩) (by have := HR1.out; show w.heap.size ≤ gk; omega) (.int .i64 x1)).setCell (p := ⟨gk, 1, none⟩) (by have := HR1.out; show w.heap.size ≤ gk; omega) (.int .i64 y1)
        have OG := Lib.hid OG2
        clear GR OG2
        have HGF : Hid (IsG ((w6.setCell ⟨gk, 0, none⟩ (.int .i64 x1)).setCell ⟨gk, 1, none⟩ (.int .i64 y1)) (some ⟨g0, 0, none⟩) all.length c3 (ys.set k (cs.set 0 (x1, y1), x, kk))) := by have h1 := OG.out.is (by rw [List.length_set, HYL.out]; omega) (by omega); rw [List.length_set, HYL.out] at h1; exact h1
        go_wp2
        refine bodyPost_ret (v := .tuple #[.slice (some ⟨g, 0, none⟩) ps.length c, .slice a2 n c2, .int .i64 (s : Int), .slice (some ⟨g0, 0, none⟩) all.length c3]) (by simp [results, Try.results28, go_sem]) rfl ?_
        exact ⟨ps, g, c, lots, a2, c2, s, (some ⟨g0, 0, none⟩), all.length, c3, ys.set k (cs.set 0 (x1, y1), x, kk), by rw [HN.out], ⟨HO.out.mono (Nat.le_of_lt HR1.out.1), small_valid HV.out, few_valid HV.out, by have := (pilesB_pos HV.out).2.2.2.2; omega⟩, HV.out, by rw [HN.out]; exact HL.out.mono (Nat.le_of_lt HR1.out.1), by rw [HN.out]; exact hl5, hs4, HGF.out, HB.out⟩
    · have e3 : ((d : Int) == 3) = false := beq_eq_false_iff_ne.2 (by omega)
      clear d0 d1 d2 d3
      have HGF : Hid (IsG w5 (some ⟨g0, 0, none⟩) all.length c3 (ys)) := HYL.out ▸ OG.out.is (by rw [HYL.out]; omega) (by omega)
      go_wp2
      refine bodyPost_ret (v := .tuple #[.slice (some ⟨g, 0, none⟩) ps.length c, .slice a2 n c2, .int .i64 (s : Int), .slice (some ⟨g0, 0, none⟩) all.length c3]) (by simp [results, Try.results28, go_sem]) rfl ?_
      exact ⟨ps, g, c, lots, a2, c2, s, (some ⟨g0, 0, none⟩), all.length, c3, ys, by rw [HN.out], ⟨HO.out.mono (Nat.le_of_lt HR1.out.1), small_valid HV.out, few_valid HV.out, by have := (pilesB_pos HV.out).2.2.2.2; omega⟩, HV.out, by rw [HN.out]; exact HL.out.mono (Nat.le_of_lt HR1.out.1), by rw [HN.out]; exact hl5, hs4, HGF.out, HB.out⟩

end Go.Proofs.Ytafnmongglhlaaa
