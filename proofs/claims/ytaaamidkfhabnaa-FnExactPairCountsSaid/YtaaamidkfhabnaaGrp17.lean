/-
  The exact statements' own functions over piles: marks.
  What the walks of the exact laws of pairs share. No condition but what each theorem says.
-/
import Derived.Test.YtaaamidkfhabnaaGrp16
import Derived.Laws.BytesArg
import Derived.Laws.Concat
import Derived.Test.YtaaamidkfhabnaaGrp8
import Derived.Test.YtaaamidkfhabnaaGrp6
namespace Go.Proofs.Ytaaamidkfhabnaa
open Go.RowKit

/-- The decimal digits of a number, none of nought. -/
def digs (n : Nat) : ByteArray := if _h : n = 0 then ByteArray.empty else digs (n / 10) ++ strOfNums [48 + ((n % 10 : Nat) : Int)]
termination_by n
decreasing_by omega
theorem digs_pos {n : Nat} (h : n ≠ 0) : digs n = digs (n / 10) ++ strOfNums [48 + ((n % 10 : Nat) : Int)] := by rw [digs]; simp [h]
theorem digs_zero : digs 0 = ByteArray.empty := by rw [digs]; simp
theorem app_empty (a : ByteArray) : a ++ ⟨#[]⟩ = a := by
  apply ByteArray.ext
  simp [ByteArray.data_append]
theorem app_assoc (a b c : ByteArray) : a ++ b ++ c = a ++ (b ++ c) := by
  apply ByteArray.ext
  simp [ByteArray.data_append]
/-- The text that markText gives. -/
def mT (k : Int) : ByteArray := if k ≤ 0 then ⟨#[109, 48]⟩ else ⟨#[109]⟩ ++ digs k.toNat

set_option maxRecDepth 100000 in
set_option maxHeartbeats 2000000 in
/-- **markText**. -/
theorem markText_as (k : Int) (s : ByteArray) (w : World) (hk0 : 0 ≤ k) (hk : k ≤ 100000000) (hs : mT k = s) :
    Calls Try.prog 75 #[.int .i64 k] w fun e w' => e = .returned (.string s) ∧ Below w.heap.size w w' := by
  obtain ⟨n0, rfl⟩ : ∃ n0 : Nat, k = (n0 : Int) := ⟨k.toNat, by omega⟩
  obtain ⟨G, hG⟩ : ∃ G, w.heap.size = G := ⟨_, rfl⟩
  by_cases hz : (n0 : Int) ≤ 0
  · have hd : decide ((n0 : Int) ≤ 0) = true := decide_eq_true hz
    have HS : Hid (s = ⟨#[109, 48]⟩) := by rw [Hid, ← hs, mT, if_pos hz]
    clear hs
    go_enter Try.func75, Try.ntmps75
    go_wp2
    go_ret
    exact ⟨ret_str HS.out.symm, Below.refl _ _⟩
  · have hd : decide ((n0 : Int) ≤ 0) = false := decide_eq_false hz
    have HS : Hid (s = ⟨#[109]⟩ ++ digs n0) := by rw [Hid, ← hs, mT, if_neg hz]; simp
    clear hs
    go_enter Try.func75, Try.ntmps75
    go_wp2
    go_loopw [0, 3] (fun i o wr => ∃ (n : Nat) (u : ByteArray), n ≤ n0 ∧ i = .int .i64 n ∧ o = .string u ∧ Hid (digs n ++ u = digs n0) ∧ u.size + n ≤ n0 ∧ Below G w wr) (fun i _ _ => (intOf i).toNat)
    case atStart => exact ⟨n0, _, Nat.le_refl _, rfl, rfl, app_empty _, by show 0 + n0 ≤ n0; omega, Below.refl _ _⟩
    case round =>
      obtain ⟨n, u, hn, rfl, rfl, hD, hun, hB⟩ := hrel
      have hBw : Below w.heap.size w wr := hG.symm ▸ hB
      have hGw : G ≤ wr.heap.size := by have := hBw.size; omega
      by_cases hpos : 0 < n
      · have hd2 : decide ((0 : Int) < (n : Int)) = true := decide_eq_true (by omega)
        have hd3 : decide (0 < n) = true := decide_eq_true hpos
        have hmod : (n : Int).tmod 10 = ((n % 10 : Nat) : Int) := by rw [Int.tmod_eq_emod_of_nonneg (by omega)]; omega
        have hdiv : (n : Int).tdiv 10 = ((n / 10 : Nat) : Int) := by rw [Int.tdiv_eq_ediv_of_nonneg (by omega)]; omega
        have hr9 : n % 10 < 10 := Nat.mod_lt _ (by omega)
        obtain ⟨r, hr⟩ : ∃ r, n % 10 = r := ⟨_, rfl⟩
        obtain ⟨d, hd⟩ : ∃ d, n / 10 = d := ⟨_, rfl⟩
        have HDG : Hid (digs n = digs d ++ strOfNums [48 + (r : Int)]) := by rw [Hid, ← hr, ← hd]; exact digs_pos (by omega)
        have hdn : d < n := by omega
        rw [hr] at hr9 hmod
        rw [hd] at hdiv
        clear hr hd
        have hw1 : IntKind.i64.wrap (48 + (r : Int)) = 48 + (r : Int) := IntWalk.i64_in _ (by omega)
        have hw8 : IntKind.u8.wrap (48 + (r : Int)) = 48 + (r : Int) := by simp [IntKind.wrap, IntKind.bits, IntKind.signed]; omega
        have hconv := run_convert_bytes_arg (P := Try.prog) (wr.alloc (.cells #[.int .u8 (48 + (r : Int))] 5)) 22 5 Try.underlying22 Try.underlying5 wr.heap.size 0 1 1 [48 + (r : Int)] rfl (fun i hi => by
          obtain rfl : i = 0 := by omega
          exact World.cell?_alloc_new wr _ _ 0) 9 Try.underlying9
        have HB2 : Hid (Below G w (wr.alloc (.cells #[.int .u8 (48 + (r : Int))] 5))) := hB.alloc hGw _
        have hz1 : (strOfNums [48 + (r : Int)]).size = 1 := by simp [strOfNums_size]
        have hz2 : (strOfNums [48 + (r : Int)] ++ u).size = 1 + u.size := by rw [ByteArray.size_append, hz1]
        have HDS : Hid (digs d ++ (strOfNums [48 + (r : Int)] ++ u) = digs n0) := by rw [Hid, ← app_assoc, ← HDG.out]; exact hD.out
        go_wp2
        refine ⟨⟨d, _, by omega, rfl, rfl, HDS, by rw [hz2]; omega, HB2.out⟩, ?_⟩
        simp [intOf]; omega
      · have hd2 : decide ((0 : Int) < (n : Int)) = false := decide_eq_false (by omega)
        obtain rfl : n = 0 := by omega
        have HU : Hid (u = digs n0) := by have := hD.out; rw [digs_zero] at this; simpa [Hid] using this
        go_wp2
        go_ret
        exact ⟨ret_str (by rw [HS.out, HU.out]), hBw⟩

/-- The marks from k on, of n piles. -/
def marksP (k : Int) (n : Nat) : List Pl := (List.range n).map fun (i : Nat) => (mT (k + 2 * (i : Int)), k + 2 * (i : Int) + 1)
theorem marksP_length (k : Int) (n : Nat) : (marksP k n).length = n := by simp [marksP]
theorem marksP_succ (k : Int) (n : Nat) : marksP k (n + 1) = marksP k n ++ [(mT (k + 2 * (n : Int)), k + 2 * (n : Int) + 1)] := by simp [marksP, List.range_succ]
theorem marksP_t {k : Int} {n j : Nat} (h : j < n) : tAt (marksP k n) j = mT (k + 2 * (j : Int)) := by simp [tAt, marksP, h]
theorem marksP_m {k : Int} {n j : Nat} (h : j < n) : mAt (marksP k n) j = k + 2 * (j : Int) + 1 := by simp [mAt, marksP, h]
/-- The first j are marked. -/
def markToP (ps : List Pl) (k : Int) (j : Nat) : List Pl := marksP k j ++ ps.drop j
theorem markToP_zero (ps : List Pl) (k : Int) : markToP ps k 0 = ps := by simp [markToP, marksP]
theorem markToP_all (ps : List Pl) (k : Int) : markToP ps k ps.length = marksP k ps.length := by simp [markToP]
theorem markToP_length {ps : List Pl} {k : Int} {j : Nat} (h : j ≤ ps.length) : (markToP ps k j).length = ps.length := by simp [markToP, marksP_length]; omega
theorem markToP_step {ps : List Pl} {k : Int} {j : Nat} (h : j < ps.length) : (markToP ps k j).set j (mT (k + 2 * (j : Int)), k + 2 * (j : Int) + 1) = markToP ps k (j + 1) := by
  unfold markToP
  rw [marksP_succ, List.drop_eq_getElem_cons h, List.set_append_right _ _ (by rw [marksP_length]; exact Nat.le_refl _), marksP_length, Nat.sub_self, List.set_cons_zero, List.append_assoc]
  rfl
theorem owns_low {w w' : World} {base n size : Nat} {e : TypeId} {v : Value} {xs : List Value} {row : Option Nat} (h : w.ownsRow base e size v n xs) (hg : w.grownBy w' row) (hr : ∀ i, row = some i → i < base) : w'.ownsRow base e size v n xs := by
  refine h.kept hg ?_
  cases hb : v.ownBlock with
  | none => exact .inl rfl
  | some i => have := (h.lt i hb).1; right; intro e2; have := hr i e2.symm; omega
theorem owns_apart {w w' : World} {base n size g c : Nat} {e : TypeId} {xs : List Value} {row : Option Nat} (h : w.ownsRow base e size (.slice (some ⟨g, 0, none⟩) n c) n xs) (hg : w.grownBy w' row) (hr : row ≠ some g) : w'.ownsRow base e size (.slice (some ⟨g, 0, none⟩) n c) n xs :=
  h.kept hg (.inr (by simpa [Value.ownBlock] using fun e => hr e.symm))
theorem below_grown {w w' : World} (hb : Below w.heap.size w w') (row : Option Nat) : w.grownBy w' row := ⟨hb.os, hb.tape, hb.output, hb.size, fun k hk _ => hb.block k hk⟩

set_option maxRecDepth 100000 in
set_option maxHeartbeats 4000000 in
/-- **markPileS**, at a row of the caller's own: that block alone is written. -/
theorem markP_any (base : Nat) (a : Option Addr) (len cap : Nat) (ps : List Pl) (k : Int) (w : World) (h : w.ownsRow base 59 2 (.slice a len cap) len (cellsP ps)) (hl : len ≤ 1048600) (hk0 : 0 ≤ k) (hk : k ≤ 10000000) :
    Calls Try.prog 40 #[.slice a len cap, .int .i64 k] w fun e w' => e = .returned (.int .i64 (k + 2 * (len : Int))) ∧ w'.ownsRow base 59 2 (.slice a len cap) len (cellsP (marksP k len)) ∧ w.grownBy w' (Value.slice a len cap).ownBlock := by
  have hpl : ps.length = len := by have h1 := h.1; rw [cellsP_length] at h1; omega
  have HPL := Lib.hid hpl; clear hpl
  have HO : Hid (w.ownsRow base 59 2 (.slice a len cap) len (cellsP (markToP ps k 0))) := by rw [markToP_zero]; exact h
  clear h
  obtain ⟨row, hrow⟩ : ∃ row, (Value.slice a len cap).ownBlock = row := ⟨_, rfl⟩
  have HROW := Lib.hid hrow
  have HG0 : Hid (w.grownBy w row) := ⟨rfl, rfl, rfl, Nat.le_refl _, fun _ _ _ => rfl⟩
  rw [hrow]
  clear hrow
  go_enter Try.func40, Try.ntmps40
  go_wp2
  go_loopw [1, 5] (fun q i wr => ∃ j : Nat, j ≤ len ∧ i = .int .i64 j ∧ q = .int .i64 (k + 2 * (j : Int)) ∧ Hid (wr.ownsRow base 59 2 (.slice a len cap) len (cellsP (markToP ps k j))) ∧ Hid (w.grownBy wr row)) (fun _ i _ => len - (intOf i).toNat)
  case atStart => exact ⟨0, Nat.zero_le _, rfl, by simp, HO, HG0⟩
  case round =>
    obtain ⟨j, hj, rfl, rfl, ho, hG⟩ := hrel
    by_cases hlt : j < len
    · obtain ⟨g, c', hv⟩ := some_of_owns ho.out (by omega)
      injection hv with e1 _ e3
      subst e1; subst e3
      have hrg : row = some g := HROW.out.symm
      obtain ⟨s, hs⟩ : ∃ s, mT (k + 2 * (j : Int)) = s := ⟨_, rfl⟩
      obtain ⟨q, hq⟩ : ∃ q, k + 2 * (j : Int) = q := ⟨_, rfl⟩
      have hjp : j < ps.length := by rw [HPL.out]; exact hlt
      have hjm : j < (markToP ps k j).length := by rw [markToP_length (by omega)]; exact hjp
      have HST : Hid ((markToP ps k j).set j (s, q + 1) = markToP ps k (j + 1)) := by rw [Hid, ← hs, ← hq]; exact markToP_step hjp
      have hq0 : 0 ≤ q ∧ q ≤ 20000000 := by omega
      have hqj : k + 2 * ((j : Int) + 1) = q + 1 + 1 := by omega
      rw [hq] at hs ⊢
      have HS := Lib.hid hs
      clear hs hq
      have hw1 : IntKind.i64.wrap (q + 1) = q + 1 := IntWalk.i64_in _ (by omega)
      have hw2 : IntKind.i64.wrap (q + 1 + 1) = q + 1 + 1 := IntWalk.i64_in _ (by omega)
      go_wp2_with fail
      refine (markText_as q s _ (by omega) (by omega) HS.out).mono ?_
      rintro e w1 ⟨rfl, hb1⟩
      have O1 := Lib.hid (owns_below ho.out hb1)
      have S1 := Lib.hid (O1.out.stored (j * 2) (.string s))
      have S2 := Lib.hid (S1.out.1.stored (j * 2 + 1) (.int .i64 (q + 1)))
      have x0 : w1.cell? ⟨g, j * 2, none⟩ = some (.string (tAt (markToP ps k j) j)) := by rw [O1.out.cellAt (j * 2) (by omega)]; exact cellsP_text _ j hjm
      have f0 : w1.frozen? ⟨g, j * 2, none⟩ = false := O1.out.frozenAt (j * 2)
      have x1 : (w1.setCell ⟨g, j * 2, none⟩ (.string s)).cell? ⟨g, j * 2 + 1, none⟩ = some (.int .i64 (mAt (markToP ps k j) j)) := by
        rw [S1.out.1.cellAt (j * 2 + 1) (by omega), List.getElem?_set_ne (by omega)]
        exact cellsP_many _ j hjm
      have f1 : (w1.setCell ⟨g, j * 2, none⟩ (.string s)).frozen? ⟨g, j * 2 + 1, none⟩ = false := S1.out.1.frozenAt (j * 2 + 1)
      have GG : Hid (w.grownBy ((w1.setCell ⟨g, j * 2, none⟩ (.string s)).setCell ⟨g, j * 2 + 1, none⟩ (.int .i64 (q + 1))) row) := by
        rw [hrg] at hG ⊢
        exact ((hG.out.trans (below_grown hb1 _)).trans S1.out.2).trans S2.out.2
      clear hb1 hrg
      go_wp2
      go_roundw
      case rel => exact ⟨j + 1, by omega, by go_num, by push_cast; rw [hqj], by rw [Hid, ← HST.out, ← cells_set2 hjm]; exact S2.out.1, GG⟩
      case measure => simp [intOf]; omega
    · obtain rfl : j = len := by omega
      go_wp2
      go_ret
      refine ⟨rfl, ?_, hG.out⟩
      have := ho.out
      rw [← HPL.out, markToP_all] at this
      rw [← HPL.out]; exact this

end Go.Proofs.Ytaaamidkfhabnaa

namespace Go.Proofs.Ytaaamidkfhabnaa
open Go.RowKit

theorem IsRows.empty8 (w : World) (a : Option Addr) (cap : Nat) : IsRows w a 0 cap [] := ⟨rfl, Nat.zero_le _, by omega, fun h => by omega⟩
theorem ptopF_short {ps : List Pl} {n : Int} : (ptopF ps n).length ≤ 5 := by
  unfold ptopF
  cases h : fitsB ps n
  · simp
  · obtain ⟨_, h1, h5, _⟩ := fits_parts h
    simp only [if_true]
    exact Nat.le_trans (candTo_short _ _) (by omega)
theorem pbestF_short {ps : List Pl} {n : Int} : (pbestF ps n).length ≤ 5 := by
  unfold pbestF
  cases h : fitsB ps n
  · simp
  · obtain ⟨_, h1, h5, _⟩ := fits_parts h
    simp only [if_true]
    exact Nat.le_trans (candTo_short _ _) (by omega)
theorem Tb.low {E R : TypeId} {w w' : World} {base len cap k n : Nat} {a : Option Addr} {G C : Nat → Nat} {F : Nat → Nat → Value} {row : Option Nat} (h : Tb E R w base a len cap k n G C F) (hg : w.grownBy w' row) (hr : ∀ i, row = some i → i < base) : Tb E R w' base a len cap k n G C F :=
  ⟨by obtain ⟨V, h1, h2⟩ := h.outer; exact ⟨V, owns_low h1 hg hr, h2⟩, fun j hj => owns_low (h.inner j hj) hg hr, h.order⟩
set_option maxHeartbeats 1000000 in
theorem markT_none (k : Int) (w : World) : Calls Try.prog 41 #[.slice none 0 0, .int .i64 k] w fun e w' => e = .returned (.int .i64 k) ∧ w = w' := by
  go_enter Try.func41, Try.ntmps41
  go_wp2
  go_loopw [1, 5] (fun q i wr => i = .int .i64 0 ∧ q = .int .i64 k ∧ w = wr) (fun _ _ _ => 0)
  case atStart => exact ⟨rfl, rfl, rfl⟩
  case round =>
    obtain ⟨rfl, rfl, rfl⟩ := hrel
    go_wp2
    go_ret
    exact ⟨rfl, rfl⟩
set_option maxHeartbeats 1000000 in
theorem heldT_none (k : Int) (w : World) : Calls Try.prog 42 #[.slice none 0 0, .int .i64 k] w fun e w' => e = .returned (.int .i64 k) ∧ w = w' := by
  go_enter Try.func42, Try.ntmps42
  go_wp2
  go_loopw [1, 5] (fun q i wr => i = .int .i64 0 ∧ q = .int .i64 k ∧ w = wr) (fun _ _ _ => 0)
  case atStart => exact ⟨rfl, rfl, rfl⟩
  case round =>
    obtain ⟨rfl, rfl, rfl⟩ := hrel
    go_wp2
    go_ret
    exact ⟨rfl, rfl⟩

end Go.Proofs.Ytaaamidkfhabnaa
