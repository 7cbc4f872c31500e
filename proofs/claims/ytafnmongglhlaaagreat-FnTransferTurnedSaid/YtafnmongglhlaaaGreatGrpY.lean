/-
  sameInts: whether two lists are equal. No condition but what each theorem says.
  What the walk over a pair's ballots asks. Of no function but sameInts.
-/
import Derived.Test.YtafnmongglhlaaaGreatGrp2
import Derived.Test.YtafnmongglhlaaaGreatGrpS
import Derived.Test.YtafnmongglhlaaaGreatGrp25
import Derived.Test.YtafnmongglhlaaaGreatGrp3
namespace Go.Proofs.YtafnmongglhlaaaGreat
open Go.RowKit

set_option maxHeartbeats 1000000 in
/-- **sameInts**: whether two lists are equal. -/
theorem sameInts_any (a : Option Addr) (len cap : Nat) (zs : List Int) (b : Option Addr) (len' cap' : Nat) (ys : List Int) (w : World) (h : IsInts w a len cap zs) (h' : IsInts w b len' cap' ys) :
    Calls Tryz.prog 8 #[.slice a len cap, .slice b len' cap'] w fun e w' => e = .returned (.bool (eqB zs ys)) ∧ Dr w w' := by
  by_cases hl : len = len'
  · subst hl
    have hne : ((len : Int) != (len : Int)) = false := by simp
    have hm := h.2.2.1
    have H := Lib.hid h; clear h
    have H' := Lib.hid h'; clear h'
    go_enter Tryz.func8, Tryz.ntmps8
    go_wp2
    go_loopw [5] (fun i wr => ∃ k : Nat, k ≤ len ∧ i = .int .i64 k ∧ Hid (zs.take k = ys.take k) ∧ Dr w wr) (fun i _ => len - (intOf i).toNat)
    case atStart => exact ⟨0, Nat.zero_le _, rfl, by simp [Hid], Dr.refl _⟩
    case round =>
      obtain ⟨k, hk, rfl, ht, hd⟩ := hrel
      obtain ⟨h1, _, _, h4⟩ := H.out.dr hd
      obtain ⟨g1, _, _, g4⟩ := H'.out.dr hd
      have H1 := Lib.hid h1; clear h1
      have G1 := Lib.hid g1; clear g1
      by_cases hlt : k < len
      · obtain ⟨b1, o1, rfl, hb1, hc1⟩ := h4 (by omega)
        obtain ⟨b2, o2, rfl, hb2, hc2⟩ := g4 (by omega)
        have hz := hc1 k hlt
        have hy := hc2 k hlt
        clear hc1 hc2 h4 g4
        cases he : (zs[k]?.getD 0 == ys[k]?.getD 0)
        · have hn : (zs[k]?.getD 0 != ys[k]?.getD 0) = true := by simp [bne, he]
          have HE := Lib.hid he; clear he
          go_wp2
          go_quiet (fail)
          go_wp2
          go_ret
          exact ⟨ret_bool (take_part zs ys k HE.out).symm, hd.drewN _⟩
        · have hn : (zs[k]?.getD 0 != ys[k]?.getD 0) = false := by simp [bne, he]
          have HE := Lib.hid he; clear he
          go_wp2
          go_quiet (fail)
          go_wp2
          go_roundw
          case rel => exact ⟨k + 1, by omega, by go_num, take_step zs ys k (by rw [H1.out]; omega) (by rw [G1.out]; omega) ht.out (by simpa using HE.out), hd.drewN _⟩
          case measure => simp [intOf]; omega
      · obtain rfl : k = len := by omega
        clear h4 g4
        go_wp2
        go_ret
        refine ⟨ret_bool ?_, hd⟩
        have := ht.out
        rw [List.take_of_length_le (by rw [H1.out]; omega), List.take_of_length_le (by rw [G1.out]; omega)] at this
        rw [this, eqB_self]
  · have hne : ((len : Int) != (len' : Int)) = true := by rw [bne_iff_ne]; omega
    have e : eqB zs ys = false := by
      simp only [eqB, decide_eq_false_iff_not]
      rintro rfl
      exact hl (h.1.symm.trans h'.1)
    rw [e]
    clear e h h' hl
    go_enter Tryz.func8, Tryz.ntmps8
    go_wp2
    go_ret
    exact ⟨rfl, Dr.refl _⟩

end Go.Proofs.YtafnmongglhlaaaGreat

namespace Go.Proofs.YtafnmongglhlaaaGreat
open Go.RowKit

theorem pair_two {pl : List Int} {x y : Int} (h : pl.Nodup) (hl : 1 < pl.length) : pairB x y pl = (hasB [x, y] (pl[0]?.getD 0) && hasB [x, y] (pl[1]?.getD 0)) := by
  match pl, h, hl with
  | u :: v :: t, h, _ =>
    have huv : u ≠ v := by
      intro e
      have := List.nodup_cons.1 h
      exact this.1 (by rw [e]; simp)
    have e0 : (u :: v :: t)[0]?.getD 0 = u := rfl
    have e1 : (u :: v :: t)[1]?.getD 0 = v := rfl
    rw [e0, e1, Bool.eq_iff_iff]
    unfold pairB hasB
    simp only [Bool.or_eq_true, Bool.and_eq_true, decide_eq_true_eq, List.contains_iff_mem, List.mem_cons, List.not_mem_nil, or_false]
    constructor
    · rintro (⟨rfl, rfl⟩ | ⟨rfl, rfl⟩)
      · exact ⟨.inl rfl, .inr rfl⟩
      · exact ⟨.inr rfl, .inl rfl⟩
    · rintro ⟨rfl | rfl, rfl | rfl⟩
      · exact absurd rfl huv
      · exact .inl ⟨rfl, rfl⟩
      · exact .inr ⟨rfl, rfl⟩
      · exact absurd rfl huv
theorem pair_short {pl : List Int} {x y : Int} (hl : ¬ 1 < pl.length) : pairB x y pl = false := by
  match pl, hl with
  | [], _ => rfl
  | [_], _ => rfl
  | _ :: _ :: _, hl => simp at hl
theorem sol_bound {ps : List Pl} (h : ∀ i, 0 ≤ mAt ps i ∧ mAt ps i ≤ 1000000) (x y : Int) : ∀ k : Nat, 0 ≤ solM ps x y k ∧ solM ps x y k ≤ 1000000 * (k : Int)
  | 0 => by simp [solM]
  | k + 1 => by
    have ih := sol_bound h x y k
    have := h k
    rw [solM]
    split <;> omega
theorem quo_top {t s q : Int} (h : quoB t s = true) (hq : quoR t s = q) : t < (s + 1) * q := by
  subst hq
  rw [quoR_yes h]
  have := (quoB_iff t s).1 h
  have hs : s = 1 ∨ s = 2 := by omega
  rcases hs with rfl | rfl <;> omega
theorem fits_nodup {ps : List Pl} {n : Int} (h : fitsB ps n = true) : ∀ i, i < ps.length → (parseL (tAt ps i)).Nodup :=
  fun i hi => vB_nodup ((fits_parts h).2.2.2 i hi)
theorem fits_few {ps : List Pl} {n : Int} (h : fitsB ps n = true) : ∀ i, i < ps.length → (parseL (tAt ps i)).length ≤ 5 :=
  fun i hi => few_of 5 _ (fits_nodup h i hi) (fun z hz => by have h1 := fits_mem h i hi z hz; have h2 := fits_parts h; omega)
theorem win_trans {ps : List Pl} {lots : List Int} {s : Int} (h : ¬ (tfWinners ps lots s).length = 0) : transB ps lots s = true := by
  cases hv : transB ps lots s
  · exact absurd (by unfold tfWinners; rw [tfAll_no hv]; rfl) h
  · rfl
theorem two_ints (x y : Int) (w : World) : IsInts (w.alloc (.cells #[.int .i64 x, .int .i64 y] 3)) (some ⟨w.heap.size, 0, none⟩) 2 2 [x, y] :=
  IsInts.of_owned (base := 0) (World.ownsRow_lit (base := 0) (e := 3) (size := 1) w #[.int .i64 x, .int .i64 y] 2 (by omega) (by unfold maxLen; omega) rfl) (by omega)
theorem two_ints2 (x y : Int) (w : World) : IsInts ((w.alloc (.cells #[.int .i64 x, .int .i64 y] 3)).alloc (.cells #[.int .i64 x, .int .i64 y] 3)) (some ⟨w.heap.size + 1, 0, none⟩) 2 2 [x, y] := by
  have h := two_ints x y (w.alloc (.cells #[.int .i64 x, .int .i64 y] 3))
  rw [show (w.alloc (.cells #[.int .i64 x, .int .i64 y] 3)).heap.size = w.heap.size + 1 by simp] at h
  exact h
theorem sameInts_eq (a : Option Addr) (len cap : Nat) (zs : List Int) (b : Option Addr) (cap' : Nat) (w : World) (h : IsInts w a len cap zs) (h' : IsInts w b len cap' zs) :
    Calls Tryz.prog 8 #[.slice a len cap, .slice b len cap'] w fun e w' => e = .returned (.bool true) ∧ Dr w w' :=
  (sameInts_any a len cap zs b len cap' zs w h h').mono fun e w' ⟨he, hd⟩ => ⟨by rw [he, eqB_self], hd⟩

end Go.Proofs.YtafnmongglhlaaaGreat
