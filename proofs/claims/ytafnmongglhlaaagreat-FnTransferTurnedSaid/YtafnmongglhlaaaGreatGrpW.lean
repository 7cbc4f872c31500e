/-
  turnedAll: each of a list exchanged; at lists of at most twenty ints.
  A transfer with two candidates exchanged. Of no function.
-/
import Derived.Test.YtafnmongglhlaaaGreatGrpU
import Derived.Test.YtafnmongglhlaaaGreatGrp20
import Derived.Test.YtafnmongglhlaaaGreatGrp25
import Derived.Test.YtafnmongglhlaaaGreatGrpV
namespace Go.Proofs.YtafnmongglhlaaaGreat
open Go.RowKit

attribute [local go_sem] Oper.semAt_some

theorem turnB_take {x y : Int} {zs : List Int} {k : Nat} (h : k < zs.length) : (turnB x y zs).take (k + 1) = (turnB x y zs).take k ++ [swapC x y (zs[k]?.getD 0)] := by
  have e : zs[k]?.getD 0 = zs[k] := by simp [h]
  have hl : k < (turnB x y zs).length := by simp [turnB, h]
  rw [List.take_succ_eq_append_getElem hl, e]
  simp [turnB]
set_option maxRecDepth 100000 in
set_option maxHeartbeats 2000000 in
/-- **turnedAll**. -/
theorem turnedAll_as (a : Option Addr) (len cap : Nat) (zs : List Int) (x y : Int) (l : List Int) (w : World) (h : IsInts w a len cap zs) (hl : turnB x y zs = l) :
    Calls Tryz.prog 10 #[.slice a len cap, .int .i64 x, .int .i64 y] w fun e w' => ∃ a' c, e = .returned (.slice a' len c) ∧ w'.ownsRow w.heap.size 3 1 (.slice a' len c) len (l.map (Value.int .i64)) ∧ Below w.heap.size w w' := by
  obtain ⟨i0, hi, hz0, hz1, hz2⟩ := info_parts int_info
  have H := Lib.hid h
  have H1 := Lib.hid h.1
  have hlen := h.2.2.1
  have HL := Lib.hid hl
  clear h hl
  have HE0 := Lib.hid (World.ownsRow_lit (base := w.heap.size) (e := 3) (size := 1) w #[] 0 (Nat.le_refl _) (by unfold maxLen; omega) rfl)
  have HB0 : Below w.heap.size w (w.alloc (.cells #[] 3)) := (Below.refl _ w).alloc (Nat.le_refl _) _
  go_enter Tryz.func10, Tryz.ntmps10
  go_wp2
  go_loopw [7, 8] (fun rv iv wr => ∃ (k : Nat) (a : Option Addr) (cap : Nat), k ≤ len ∧ iv = .int .i64 (k : Int) ∧ rv = .slice a k cap ∧ Hid (wr.ownsRow w.heap.size 3 1 (.slice a k cap) k (((turnB x y zs).take k).map (Value.int .i64))) ∧ Below w.heap.size w wr) (fun _ iv _ => len - (intOf iv).toNat)
  case atStart => exact ⟨0, _, _, Nat.zero_le _, rfl, rfl, HE0.out, HB0⟩
  case round =>
    clear HE0 HB0
    obtain ⟨k, ar, cr, hk, rfl, rfl, ho, hB⟩ := hrel
    by_cases hlt : k < len
    · obtain ⟨b, off, rfl, hb, hc⟩ := (H.out.below hB).2.2.2 (by omega)
      have ci := hc k hlt
      obtain ⟨z, hz⟩ : ∃ z, zs[k]?.getD 0 = z := ⟨_, rfl⟩
      rw [hz] at ci
      have HN : Hid ((turnB x y zs).take (k + 1) = (turnB x y zs).take k ++ [swapC x y z]) := by rw [Hid, turnB_take (by rw [H1.out]; exact hlt), hz]
      clear hc hz
      go_wp2_with (first | (go_at_call 27; refine (turned_any z x y _).mono ?_; rintro e w3 ⟨rfl, rfl⟩) | (at_builtin; refine wpList_append_own _ rfl _ _ 24 rfl w.heap.size 3 i0 (.int .i64 0) 1 8 Tryz.underlying24 hi hz0 hz1 hz2 rfl (by decide) _ _ _ rfl (ho.out.alloc _) ⟨wr.heap.size, 0, none⟩ 1 1 [.int .i64 (swapC x y z)] rfl rfl (cell_one_new _ _ _) (by simp [Value.oneCell']) (by unfold maxLen; omega) (by omega) (by have := hB.size; simp; omega) ?_; intro v' w4 hown' hgrow _; obtain ⟨a4, cap4, rfl⟩ := owns_slice hown'))
      have hrow : ∀ j, (Value.slice ar k cr).ownBlock = some j → w.heap.size ≤ j := fun j ej => (ho.out.lt j ej).1
      have hB4 := (hB.alloc hB.size (.cells #[.int .i64 (swapC x y z)] 3)).grown hgrow (by have := hB.size; simp; omega) (fun j e => hrow j e)
      have HO4 : Hid (w4.ownsRow w.heap.size 3 1 (.slice a4 (k + 1) cap4) (k + 1) (((turnB x y zs).take (k + 1)).map (Value.int .i64))) := by
        unfold Hid; rw [HN.out, List.map_append]; exact hown'
      clear hown' hgrow hrow
      go_wp2
      go_roundw
      case rel => exact ⟨k + 1, a4, cap4, by omega, by go_num, rfl, HO4.out, hB4⟩
      case measure => simp [intOf]; omega
    · obtain rfl : k = len := by omega
      have HE : Hid ((turnB x y zs).take k = l) := by
        rw [Hid, ← HL.out]; exact List.take_of_length_le (by simp [turnB, H1.out])
      go_wp2
      go_ret
      exact ⟨ar, cr, rfl, by rw [← HE.out]; exact ho.out, hB⟩

end Go.Proofs.YtafnmongglhlaaaGreat

namespace Go.Proofs.YtafnmongglhlaaaGreat
open Go.RowKit

/-- The ballots at the start: each of weight one. -/
def balP (ps : List Pl) : List Bal := ps.map fun p => (parseL p.1, (p.2 : Rat))
theorem bal_at_start (ps : List Pl) (n s : Nat) : tfBal ps (tfStart ps n s).ws = balP ps := by
  unfold tfBal balP
  refine List.ext_getElem (by simp) (fun i h1 h2 => ?_)
  have hi : i < ps.length := by simpa using h2
  rw [List.getElem_map, List.getElem_map, List.getElem_range]
  have e : tfW (tfStart ps n s).ws i = (1, 1) := by simp [tfStart, tfW, hi]
  have e1 : tAt ps i = (ps[i]).1 := by simp [tAt, hi]
  have e2 : mAt ps i = (ps[i]).2 := by simp [mAt, hi]
  rw [e, e1, e2, val_int]
  congr 1
  grind
theorem none_gone (n : Nat) : tfG (List.replicate n false) = fun _ => false := by
  funext z
  unfold tfG
  rw [List.getElem?_replicate]
  split <;> simp
theorem swap_ren {x y : Int} (hx : 0 ≤ x) (hy : 0 ≤ y) : Ren (swapC x y) :=
  ⟨swapC_twice x y, by unfold swapC; rw [if_neg (by omega), if_neg (by omega)]⟩
theorem bal_turn {x y : Int} (hx : 0 ≤ x ∧ x ≤ 4) (hy : 0 ≤ y ∧ y ≤ 4) {ps : List Pl} (h : pilesB ps = true) : (balP (turnPs x y ps)).Perm (turnR (swapC x y) (balP ps)) := by
  have e : turnR (swapC x y) (balP ps) = balP (ps.map fun p => (turnT x y p.1, p.2)) := by
    unfold turnR balP
    rw [List.map_map, List.map_map]
    refine List.map_congr_left (fun p hp => ?_)
    show ((parseL p.1).map (swapC x y), (p.2 : Rat)) = (parseL (turnT x y p.1), (p.2 : Rat))
    rw [parse_turn hx hy ((pilesB_pos h).2.2.2.1 p hp)]
    rfl
  rw [e]
  exact (turned_perm hx hy h).map _
/-- **Candidates are treated alike**: the winners of a turned transfer are the winners, turned. -/
theorem wins_turned {ps : List Pl} {lots : List Int} {s x y : Nat} (h : transB ps lots (s : Int) = true) (hx : x < lots.length) (hy : y < lots.length) : tfWinners (turnPs (x : Int) (y : Int) ps) (turnB (x : Int) (y : Int) lots) (s : Int) = turnB (x : Int) (y : Int) (tfWinners ps lots (s : Int)) := by
  obtain ⟨hlo, hfi, hs, hsn, hsum⟩ := (transB_iff _ _ _).1 h
  have h5 := lotsB_len hlo
  have hx4 : 0 ≤ (x : Int) ∧ (x : Int) ≤ 4 := by omega
  have hy4 : 0 ≤ (y : Int) ∧ (y : Int) ≤ 4 := by omega
  have hp := (fits_parts hfi).1
  obtain ⟨hlo2, hlen⟩ := lots_turn hlo (x := (x : Int)) (y := (y : Int)) (by omega) (by omega)
  have h2 : transB (turnPs (x : Int) (y : Int) ps) (turnB (x : Int) (y : Int) lots) (s : Int) = true :=
    (transB_iff _ _ _).2 ⟨hlo2, by rw [hlen]; exact fits_turn hfi hx hy, hs, by rw [hlen]; exact hsn, by rw [turn_sum]; exact hsum⟩
  have A := trans_arg h
  have A2 := trans_arg h2
  have S1 := tf_start A (s := s) (by omega) (by omega)
  have S2 := tf_start A2 (s := s) (by omega) (by rw [hlen]; omega)
  have R1 := tf_run A lots.length _ S1
  have R2 := tf_run A2 lots.length _ S2
  unfold tfWinners
  rw [tfAll_yes h, tfAll_yes h2, Int.toNat_natCast, hlen]
  rw [hlen] at R2
  unfold tfWin
  rw [R1, R2, bal_at_start, bal_at_start]
  show winT (runT (turnB (x : Int) (y : Int) lots) _ lots.length (tfG (List.replicate lots.length false)) _ s) = turnB (x : Int) (y : Int) (winT (runT lots _ lots.length (tfG (List.replicate lots.length false)) _ s))
  rw [none_gone, turn_sum]
  rw [runT_perm _ _ _ _ _ (bal_turn hx4 hy4 hp)]
  have h3 := runT_turn (swap_ren hx4.1 hy4.1) (lots := lots) (q := ((quoR (sumL ps) (s : Int) : Int) : Rat)) lots.length (fun _ => false) (balP ps) s
  have e : turnB (x : Int) (y : Int) lots = lots.map (swapC (x : Int) (y : Int)) := rfl
  rw [e, h3, winT_turn]
  rfl

end Go.Proofs.YtafnmongglhlaaaGreat
