/-
  sameInts: whether two lists are equal. No condition but what each theorem says.
  The statements' own sumOf and before: the sum of at most twenty numbers; which of two comes first in a list.
  spec.l11All and spec.l11Most: everyone; who has the greatest of some numbers, in memory of their own.
-/
import Derived.Test.YtmbhcgdapglbgaaGrp6
import Derived.Test.YtmbhcgdapglbgaaGrp4
import Derived.Test.YtmbhcgdapglbgaaGrp3
import Derived.Test.YtmbhcgdapglbgaaGrp5
namespace Go.Proofs.Ytmbhcgdapglbgaa
open Go.RowKit

set_option maxHeartbeats 1000000 in
/-- **sameInts**: whether two lists are equal. -/
theorem sameInts_any (a : Option Addr) (len cap : Nat) (zs : List Int) (b : Option Addr) (len' cap' : Nat) (ys : List Int) (w : World) (h : IsInts w a len cap zs) (h' : IsInts w b len' cap' ys) :
    Calls Try.prog 16 #[.slice a len cap, .slice b len' cap'] w fun e w' => e = .returned (.bool (eqB zs ys)) ∧ Dr w w' := by
  by_cases hl : len = len'
  · subst hl
    have hne : ((len : Int) != (len : Int)) = false := by simp
    have hm := h.2.2.1
    have H := Lib.hid h; clear h
    have H' := Lib.hid h'; clear h'
    go_enter Try.func16, Try.ntmps16
    go_wp2
    go_loopw [5] (fun i wr => ∃ k : Nat, k ≤ len ∧ i = .int .i64 k ∧ Hid (zs.take k = ys.take k) ∧ Dr w wr) (fun i _ => len - (intOf i).toNat)
    case atStart => exact ⟨0, Nat.zero_le _, rfl, by simp [Hid], Dr.refl _⟩
    case round =>
      obtain ⟨k, hk, rfl, ht, hd⟩ := hrel
      obtain ⟨h1, _, _, h4⟩ := H.out.dr hd
      obtain ⟨g1, _, _, g4⟩ := H'.out.dr hd
      have H1 := Lib.hid h1; clear h1
      have G1 := Lib.hid g1; clear g1
      by_cases hlt : k < len
      · obtain ⟨b1, o1, rfl, hb1, hc1⟩ := h4 (by omega)
        obtain ⟨b2, o2, rfl, hb2, hc2⟩ := g4 (by omega)
        have hz := hc1 k hlt
        have hy := hc2 k hlt
        clear hc1 hc2 h4 g4
        cases he : (zs[k]?.getD 0 == ys[k]?.getD 0)
        · have hn : (zs[k]?.getD 0 != ys[k]?.getD 0) = true := by simp [bne, he]
          have HE := Lib.hid he; clear he
          go_wp2
          go_quiet (fail)
          go_wp2
          go_ret
          exact ⟨ret_bool (take_part zs ys k HE.out).symm, hd.drewN _⟩
        · have hn : (zs[k]?.getD 0 != ys[k]?.getD 0) = false := by simp [bne, he]
          have HE := Lib.hid he; clear he
          go_wp2
          go_quiet (fail)
          go_wp2
          go_roundw
          case rel => exact ⟨k + 1, by omega, by go_num, take_step zs ys k (by rw [H1.out]; omega) (by rw [G1.out]; omega) ht.out (by simpa using HE.out), hd.drewN _⟩
          case measure => simp [intOf]; omega
      · obtain rfl : k = len := by omega
        clear h4 g4
        go_wp2
        go_ret
        refine ⟨ret_bool ?_, hd⟩
        have := ht.out
        rw [List.take_of_length_le (by rw [H1.out]; omega), List.take_of_length_le (by rw [G1.out]; omega)] at this
        rw [this, eqB_self]
  · have hne : ((len : Int) != (len' : Int)) = true := by rw [bne_iff_ne]; omega
    have e : eqB zs ys = false := by
      simp only [eqB, decide_eq_false_iff_not]
      rintro rfl
      exact hl (h.1.symm.trans h'.1)
    rw [e]
    clear e h h' hl
    go_enter Try.func16, Try.ntmps16
    go_wp2
    go_ret
    exact ⟨rfl, Dr.refl _⟩

end Go.Proofs.Ytmbhcgdapglbgaa

namespace Go.Proofs.Ytmbhcgdapglbgaa
open Go.RowKit

set_option maxHeartbeats 2000000 in
/-- **sumOf**. -/
theorem lawSum_as (a : Option Addr) (len cap : Nat) (zs : List Int) (s : Int) (w : World) (h : IsInts w a len cap zs) (hl : len ≤ 20) (hb : ∀ x : Nat, x < len → 0 ≤ zs[x]?.getD 0 ∧ zs[x]?.getD 0 ≤ 100000) (hs : totI zs = s) :
    Calls Try.prog 17 #[.slice a len cap] w fun e w' => e = .returned (.int .i64 s) ∧ w = w' := by
  obtain ⟨h1, h2, h3, h4⟩ := h
  have H1 := Lib.hid h1
  have H4 := Lib.hid h4
  have HB := Lib.hid hb
  have HS := Lib.hid hs
  clear h1 h4 hb hs
  go_enter Try.func17, Try.ntmps17
  go_wp2
  go_loop [3, 4] (fun nv iv => ∃ (i : Nat) (t : Int), i ≤ len ∧ iv = .int .i64 (i : Int) ∧ nv = .int .i64 t ∧ Hid (totI (zs.take i) = t)) (fun _ iv => len - (intOf iv).toNat)
  case atStart => exact ⟨0, 0, Nat.zero_le _, rfl, rfl, by unfold Hid; simp [totI_nil]⟩
  case round =>
    obtain ⟨i, t, hil, rfl, rfl, hT⟩ := hrel
    by_cases hlt : i < len
    · obtain ⟨b, off, rfl, hb, hc⟩ := H4.out (by omega)
      have ci := hc i hlt
      obtain ⟨z, hz⟩ : ∃ z, zs[i]?.getD 0 = z := ⟨_, rfl⟩
      have hzb := HB.out i hlt
      have htb := tot_bound (m := 100000) (by omega) HB.out i (by omega)
      rw [hT.out] at htb
      rw [hz] at ci hzb
      have HT2 : Hid (totI (zs.take (i + 1)) = t + z) := by rw [Hid, tot_take (by rw [H1.out]; exact hlt), hz, hT.out]
      clear hc hz
      go_wp2
      go_round
      case rel => exact ⟨i + 1, t + z, by omega, by go_num, rfl, HT2⟩
      case measure => simp [intOf]; omega
    · obtain rfl : i = len := by omega
      have HE : Hid (t = s) := by rw [Hid, ← HS.out, ← hT.out, List.take_of_length_le (by rw [H1.out]; exact Nat.le_refl _)]
      go_wp2
      go_ret
      exact ⟨ret_int HE.out, rfl⟩

set_option maxHeartbeats 1000000 in
/-- **before**. -/
theorem before_as (a : Option Addr) (len cap : Nat) (zs : List Int) (x y : Int) (v : Bool) (w : World) (h : IsInts w a len cap zs) (hv : befL zs x y = v) :
    Calls Try.prog 19 #[.slice a len cap, .int .i64 x, .int .i64 y] w fun e w' => e = .returned (.bool v) ∧ w = w' := by
  obtain ⟨h1, h2, h3, h4⟩ := h
  have H1 := Lib.hid h1; clear h1
  have H4 := Lib.hid h4; clear h4
  have HV := Lib.hid hv; clear hv
  go_enter Try.func19, Try.ntmps19
  go_wp2
  go_loop [7] (fun i => ∃ k : Nat, k ≤ len ∧ i = .int .i64 k ∧ Hid (befL zs x y = befL (zs.drop k) x y)) (fun i => len - (intOf i).toNat)
  case atStart => exact ⟨0, Nat.zero_le _, rfl, by simp [Hid]⟩
  case round =>
    obtain ⟨k, hk, rfl, hp⟩ := hrel
    by_cases hlt : k < len
    · obtain ⟨b, o, rfl, hb, hc⟩ := H4.out (by omega)
      have hz := hc k hlt
      clear hc
      have HD := Lib.hid (drop_cons zs k (by rw [H1.out]; exact hlt))
      obtain ⟨z, hze⟩ : ∃ z, zs[k]?.getD 0 = z := ⟨_, rfl⟩
      rw [hze] at hz HD
      clear hze
      cases hzx : (z == x)
      · cases hzy : (z == y)
        · have HX := Lib.hid hzx
          have HY := Lib.hid hzy
          go_wp2
          go_round
          case rel =>
            refine ⟨k + 1, by omega, by go_num, ?_⟩
            unfold Hid
            have h1 : ¬ z = x := by simpa using HX.out
            have h2 : ¬ z = y := by simpa using HY.out
            rw [hp.out, HD.out, befL, if_neg (by rintro (e | e); exact h1 e; exact h2 e)]
          case measure => simp [intOf]; omega
        · have HX := Lib.hid hzx
          have HY := Lib.hid hzy
          go_wp2
          go_ret
          refine ⟨ret_bool ?_, rfl⟩
          have h1 : ¬ z = x := by simpa using HX.out
          have h2 : z = y := by simpa using HY.out
          rw [← HV.out, hp.out, HD.out, befL, if_pos (.inr h2), decide_eq_false h1]; rfl
      · have HX := Lib.hid hzx
        cases hxy : (x != y)
        · have HXY := Lib.hid hxy
          go_wp2
          go_ret
          refine ⟨ret_bool ?_, rfl⟩
          have h1 : z = x := by simpa using HX.out
          have h2 : x = y := by simpa using HXY.out
          rw [← HV.out, hp.out, HD.out, befL, if_pos (.inl h1), decide_eq_true h1, decide_eq_false (by simp [h2])]; rfl
        · have HXY := Lib.hid hxy
          go_wp2
          go_ret
          refine ⟨ret_bool ?_, rfl⟩
          have h1 : z = x := by simpa using HX.out
          have h2 : x ≠ y := by simpa using HXY.out
          rw [← HV.out, hp.out, HD.out, befL, if_pos (.inl h1), decide_eq_true h1, decide_eq_true h2]; rfl
    · obtain rfl : k = len := by omega
      go_wp2
      go_ret
      refine ⟨ret_bool ?_, rfl⟩
      rw [← HV.out, hp.out, List.drop_of_length_le (by rw [H1.out]; omega)]; rfl

end Go.Proofs.Ytmbhcgdapglbgaa

namespace Go.Proofs.Ytmbhcgdapglbgaa
open Go.RowKit

attribute [local go_sem] Oper.semAt_some

theorem bool_info10 : (Try.prog.info? 4).map (fun i => (i.zero, i.size, i.bytes)) = some (some (.bool false), 1, 1) := by kernel_rfl
theorem boolsRow_is {w : World} {base n c : Nat} {a : Option Addr} {L : List Bool} (h : w.ownsRow base 4 1 (.slice a n c) n (L.map Value.bool)) (hl : L.length = n) (hn : n ≤ 1048600) : IsBools w a n c L := by
  rcases h.2 with ⟨e1, e0⟩ | ⟨g, c', cur, e1, hb, hg, hc1, hc2, _⟩
  · injection e1 with e1 _ e3
    subst e1 e3 e0
    exact ⟨hl, Nat.le_refl _, hn, fun hp => by omega⟩
  · injection e1 with e1 _ e3
    subst e1 e3
    refine ⟨hl, hc1, hn, fun hp => ⟨g, 0, rfl, (h.lt g rfl).2, fun j hj => ?_⟩⟩
    rw [Nat.zero_add, h.cellAt j (by omega)]
    simp [hl, hj]

set_option maxRecDepth 100000 in
set_option maxHeartbeats 2000000 in
/-- **l11All**. -/
theorem all11_as (n : Nat) (w : World) (hn : n ≤ 5) :
    Calls Try.prog 46 #[.int .i64 (n : Int)] w fun e w' => ∃ a c, e = .returned (.slice a n c) ∧ w'.ownsRow w.heap.size 4 1 (.slice a n c) n ((allL n).map Value.bool) ∧ Below w.heap.size w w' := by
  obtain ⟨i0, hi, hz0, hz1, hz2⟩ := info_parts bool_info10
  have HE0 := Lib.hid (World.ownsRow_lit (base := w.heap.size) (e := 4) (size := 1) w #[] 0 (Nat.le_refl _) (by unfold maxLen; omega) rfl)
  have HB0 : Below w.heap.size w (w.alloc (.cells #[] 4)) := (Below.refl _ w).alloc (Nat.le_refl _) _
  go_enter Try.func46, Try.ntmps46
  go_wp2
  go_loopw [3, 4] (fun rv iv wr => ∃ (k : Nat) (a : Option Addr) (cap : Nat), k ≤ n ∧ iv = .int .i64 (k : Int) ∧ rv = .slice a k cap ∧ Hid (wr.ownsRow w.heap.size 4 1 (.slice a k cap) k ((allL k).map Value.bool)) ∧ Below w.heap.size w wr) (fun _ iv _ => n - (intOf iv).toNat)
  case atStart => exact ⟨0, _, _, Nat.zero_le _, rfl, rfl, HE0.out, HB0⟩
  case round =>
    clear HE0 HB0
    obtain ⟨k, a, cap, hk, rfl, rfl, ho, hB⟩ := hrel
    by_cases hlt : k < n
    · go_wp2_with (at_builtin; refine wpList_append_own _ rfl _ _ 60 rfl w.heap.size 4 i0 (.bool false) 1 1 Try.underlying60 hi hz0 hz1 hz2 rfl (by decide) _ _ _ rfl (ho.out.alloc _) ⟨wr.heap.size, 0, none⟩ 1 1 [.bool true] rfl rfl (cell_one_new _ _ _) (by simp [Value.oneCell']) (by unfold maxLen; omega) (by omega) (by have := hB.size; simp; omega) ?_; intro v' w4 hown' hgrow _; obtain ⟨a4, cap4, rfl⟩ := owns_slice hown')
      have hrow : ∀ j, (Value.slice a k cap).ownBlock = some j → w.heap.size ≤ j := fun j ej => (ho.out.lt j ej).1
      have hB4 := (hB.alloc hB.size (.cells #[.bool true] 4)).grown hgrow (by have := hB.size; simp; omega) (fun j e => hrow j e)
      have HO4 : Hid (w4.ownsRow w.heap.size 4 1 (.slice a4 (k + 1) cap4) (k + 1) ((allL (k + 1)).map Value.bool)) := by
        unfold Hid; rw [allL, List.replicate_succ', List.map_append]; exact hown'
      clear hown' hgrow hrow
      go_wp2
      go_roundw
      case rel => exact ⟨k + 1, a4, cap4, by omega, by go_num, rfl, HO4.out, hB4⟩
      case measure => simp [intOf]; omega
    · obtain rfl : k = n := by omega
      go_wp2
      go_ret
      exact ⟨a, cap, rfl, ho.out, hB⟩

/-- What l11Most has found so far. -/
def mostTo (cs : List Int) (s : List Bool) (m : Int) (k : Nat) : List Bool := (List.range k).map fun i => s[i]?.getD false && (cs[i]?.getD 0 == m)
theorem mostTo_succ (cs : List Int) (s : List Bool) (m : Int) (k : Nat) : mostTo cs s m (k + 1) = mostTo cs s m k ++ [s[k]?.getD false && (cs[k]?.getD 0 == m)] := by simp [mostTo, List.range_succ]
theorem bestS_low (cs : List Int) (s : List Bool) : ∀ k, -1 ≤ bestS cs s k
  | 0 => by rw [bestS_zero]; omega
  | k + 1 => by rw [bestS_succ]; have := bestS_low cs s k; split <;> omega

set_option maxRecDepth 100000 in
set_option maxHeartbeats 4000000 in
/-- **l11Most**. -/
theorem most11_as (a : Option Addr) (n cap : Nat) (cs : List Int) (a' : Option Addr) (cap' : Nat) (s : List Bool) (w : World) (h : IsInts w a n cap cs) (h' : IsBools w a' n cap' s) (L : List Bool) (hL : mostL cs s = L) :
    Calls Try.prog 45 #[.slice a n cap, .slice a' n cap'] w fun e w' => ∃ a c, e = .returned (.slice a n c) ∧ w'.ownsRow w.heap.size 4 1 (.slice a n c) n (L.map Value.bool) ∧ Below w.heap.size w w' := by
  obtain ⟨i0, hi, hz0, hz1, hz2⟩ := info_parts bool_info10
  obtain ⟨h1, h2, h3, h4⟩ := h
  obtain ⟨g1, g2, g3, g4⟩ := id h'
  have H1 := Lib.hid h1
  have H4 := Lib.hid h4
  have G4 := Lib.hid g4
  have HL := Lib.hid hL
  clear h1 h4 g4 g1 hL h'
  go_enter Try.func45, Try.ntmps45
  go_wp2
  go_loop [5, 6] (fun bv iv => ∃ (i : Nat) (m : Int), i ≤ n ∧ iv = .int .i64 (i : Int) ∧ bv = .int .i64 m ∧ Hid (bestS cs s i = m)) (fun _ iv => n - (intOf iv).toNat)
  case atStart => exact ⟨0, -1, Nat.zero_le _, rfl, rfl, bestS_zero _ _⟩
  case round =>
    obtain ⟨i, m, hin, rfl, rfl, hM⟩ := hrel
    by_cases hlt : i < n
    · obtain ⟨b, off, rfl, hb, hc⟩ := H4.out (by omega)
      obtain ⟨b', off', rfl, hb', hc'⟩ := G4.out (by omega)
      have ci := hc i hlt
      have si := hc' i hlt
      obtain ⟨z, hz⟩ : ∃ z, cs[i]?.getD 0 = z := ⟨_, rfl⟩
      obtain ⟨u, hu⟩ : ∃ u, s[i]?.getD false = u := ⟨_, rfl⟩
      rw [hz] at ci
      rw [hu] at si
      have HN : Hid (bestS cs s (i + 1) = if u = true then max m z else m) := by rw [Hid, bestS_succ, hu, hz, hM.out]
      clear hc hc' hz hu
      cases u
      · have HN2 : Hid (bestS cs s (i + 1) = m) := by rw [Hid, HN.out]; rfl
        clear HN
        go_wp2
        go_round
        case rel => exact ⟨i + 1, m, by omega, by go_num, rfl, HN2⟩
        case measure => simp [intOf]; omega
      · by_cases hmz : m < z
        · have HN2 : Hid (bestS cs s (i + 1) = z) := by rw [Hid, HN.out, if_pos rfl]; omega
          clear HN
          go_wp2
          go_round
          case rel => exact ⟨i + 1, z, by omega, by go_num, by first | rfl | (congr 1; omega), HN2⟩
          case measure => simp [intOf]; omega
        · have HN2 : Hid (bestS cs s (i + 1) = m) := by rw [Hid, HN.out, if_pos rfl]; omega
          clear HN
          go_wp2
          go_round
          case rel => exact ⟨i + 1, m, by omega, by go_num, by first | rfl | (congr 1; omega), HN2⟩
          case measure => simp [intOf]; omega
    · obtain rfl : i = n := by omega
      have HL2 : Hid (mostTo cs s m i = L) := by rw [Hid, ← HL.out, mostL, H1.out, hM.out]; rfl
      have HE0 := Lib.hid (World.ownsRow_lit (base := w.heap.size) (e := 4) (size := 1) w #[] 0 (Nat.le_refl _) (by unfold maxLen; omega) rfl)
      have HB0 : Below w.heap.size w (w.alloc (.cells #[] 4)) := (Below.refl _ w).alloc (Nat.le_refl _) _
      go_wp2
      go_loopw [7, 8] (fun rv iv wr => ∃ (k : Nat) (a : Option Addr) (cap : Nat), k ≤ i ∧ iv = .int .i64 (k : Int) ∧ rv = .slice a k cap ∧ Hid (wr.ownsRow w.heap.size 4 1 (.slice a k cap) k ((mostTo cs s m k).map Value.bool)) ∧ Below w.heap.size w wr) (fun _ iv _ => i - (intOf iv).toNat)
      case atStart => exact ⟨0, _, _, Nat.zero_le _, rfl, rfl, HE0.out, HB0⟩
      case round =>
        clear HE0 HB0
        obtain ⟨k, ar, cr, hk, rfl, rfl, ho, hB⟩ := hrel
        by_cases hlt : k < i
        · obtain ⟨b, off, rfl, hb, hc⟩ := H4.out (by omega)
          obtain ⟨b', off', rfl, hb', hc'⟩ := G4.out (by omega)
          have ck : wr.cell? ⟨b, off + k, none⟩ = _ := (hB.cell (p := ⟨b, off + k, none⟩) hb).trans (hc k hlt)
          have sk : wr.cell? ⟨b', off' + k, none⟩ = _ := (hB.cell (p := ⟨b', off' + k, none⟩) hb').trans (hc' k hlt)
          obtain ⟨z, hz⟩ : ∃ z, cs[k]?.getD 0 = z := ⟨_, rfl⟩
          obtain ⟨u, hu⟩ : ∃ u, s[k]?.getD false = u := ⟨_, rfl⟩
          obtain ⟨q, hq⟩ : ∃ q, (z == m) = q := ⟨_, rfl⟩
          rw [hz] at ck
          rw [hu] at sk
          have HN : Hid (mostTo cs s m (k + 1) = mostTo cs s m k ++ [u && q]) := by rw [Hid, mostTo_succ, hu, hz, hq]
          clear hc hc' hz hu
          cases u
          · skip
            go_wp2_with (at_builtin; refine wpList_append_own _ rfl _ _ 60 rfl w.heap.size 4 i0 (.bool false) 1 1 Try.underlying60 hi hz0 hz1 hz2 rfl (by decide) _ _ _ rfl (ho.out.alloc _) ⟨wr.heap.size, 0, none⟩ 1 1 [.bool (false)] rfl rfl (cell_one_new _ _ _) (by simp [Value.oneCell']) (by unfold maxLen; omega) (by omega) (by have := hB.size; simp; omega) ?_; intro v' w4 hown' hgrow _; obtain ⟨a4, cap4, rfl⟩ := owns_slice hown')
            have hrow : ∀ j, (Value.slice ar k cr).ownBlock = some j → w.heap.size ≤ j := fun j ej => (ho.out.lt j ej).1
            have hB4 := (hB.alloc hB.size (.cells #[.bool (false)] 4)).grown hgrow (by have := hB.size; simp; omega) (fun j e => hrow j e)
            have HO4 : Hid (w4.ownsRow w.heap.size 4 1 (.slice a4 (k + 1) cap4) (k + 1) ((mostTo cs s m (k + 1)).map Value.bool)) := by
              unfold Hid; rw [HN.out, List.map_append]; exact hown'
            clear hown' hgrow hrow
            go_wp2
            go_roundw
            case rel => exact ⟨k + 1, a4, cap4, by omega, by go_num, rfl, HO4.out, hB4⟩
            case measure => simp [intOf]; omega
          · skip
            go_wp2_with (at_builtin; refine wpList_append_own _ rfl _ _ 60 rfl w.heap.size 4 i0 (.bool false) 1 1 Try.underlying60 hi hz0 hz1 hz2 rfl (by decide) _ _ _ rfl (ho.out.alloc _) ⟨wr.heap.size, 0, none⟩ 1 1 [.bool (q)] rfl rfl (cell_one_new _ _ _) (by simp [Value.oneCell']) (by unfold maxLen; omega) (by omega) (by have := hB.size; simp; omega) ?_; intro v' w4 hown' hgrow _; obtain ⟨a4, cap4, rfl⟩ := owns_slice hown')
            have hrow : ∀ j, (Value.slice ar k cr).ownBlock = some j → w.heap.size ≤ j := fun j ej => (ho.out.lt j ej).1
            have hB4 := (hB.alloc hB.size (.cells #[.bool (q)] 4)).grown hgrow (by have := hB.size; simp; omega) (fun j e => hrow j e)
            have HO4 : Hid (w4.ownsRow w.heap.size 4 1 (.slice a4 (k + 1) cap4) (k + 1) ((mostTo cs s m (k + 1)).map Value.bool)) := by
              unfold Hid; rw [HN.out, List.map_append]; exact hown'
            clear hown' hgrow hrow
            go_wp2
            go_roundw
            case rel => exact ⟨k + 1, a4, cap4, by omega, by go_num, rfl, HO4.out, hB4⟩
            case measure => simp [intOf]; omega
        · obtain rfl : k = i := by omega
          go_wp2
          go_ret
          exact ⟨ar, cr, rfl, by rw [← HL2.out]; exact ho.out, hB⟩

end Go.Proofs.Ytmbhcgdapglbgaa
