/-
  The statements' own small functions at bools (toBoolS, eqBoolS): what each returns, and that it writes only into memory of its own. No condition but what each theorem says.
-/
import Derived.Test.YtapmmbngfklahaaLaws
import Derived.Test.YtapmmbngfklahaaOpen
namespace Go.Proofs.Ytapmmbngfklahaa
open Go.RowKit

theorem bool_info : (Try.prog.info? 4).map (fun i => (i.zero, i.size, i.bytes)) = some (some (.bool false), 1, 1) := by kernel_rfl

/-- What a row that is owned says to a reader. -/
theorem IsBools.of_owns {w : World} {base g len cap : Nat} {zs : List Bool} (h : w.ownsRow base 4 1 (.slice (some ⟨g, 0, none⟩) len cap) len (zs.map Value.bool)) (hl : len ≤ 1048600) : IsBools w (some ⟨g, 0, none⟩) len cap zs := by
  have hlen : zs.length = len := by have := h.1; simpa using this
  have hcap : len ≤ cap := by
    rcases h.2 with ⟨e, _⟩ | ⟨_, c, _, e, _, _, hc, _⟩
    · cases e
    · injection e with _ _ e3; omega
  refine ⟨hlen, hcap, hl, fun hp => ⟨g, 0, rfl, ?_, fun j hj => ?_⟩⟩
  · exact (h.lt g rfl).2
  · rw [Nat.zero_add, h.cellAt j (by omega)]
    simp [show j < zs.length from by omega]

/-- The first k of zs, then false ones: what toBoolS has written when k rounds are over. -/
def fillToB (zs : List Bool) (len k : Nat) : List Bool := zs.take k ++ List.replicate (len - k) false
theorem fillToB_step (zs : List Bool) (len k : Nat) (hz : zs.length = len) (hk : k < len) : ((fillToB zs len k).map Value.bool).set k (.bool (zs[k]?.getD false)) = (fillToB zs len (k + 1)).map Value.bool := by
  have e : len - k = (len - (k + 1)) + 1 := by omega
  unfold fillToB
  rw [e, List.replicate_succ, List.take_succ_eq_append_getElem (by omega)]
  have hl : ((zs.take k).map Value.bool).length = k := by simp; omega
  simp only [List.map_append, List.map_cons, List.append_assoc, List.cons_append, List.nil_append]
  rw [List.set_append_right _ _ (by omega), hl, Nat.sub_self, List.set_cons_zero]
  simp [show k < zs.length from by omega]
theorem fillToB_all (zs : List Bool) (len : Nat) (hz : zs.length = len) : fillToB zs len len = zs := by simp [fillToB, ← hz]

set_option maxHeartbeats 1000000 in
/-- **toBoolS**: a new slice with the same bools. -/
theorem toBoolS_any (a : Option Addr) (len cap : Nat) (zs : List Bool) (w : World) (h : IsBools w a len cap zs) :
    Calls Try.prog 30 #[.slice a len cap] w fun e w' => ∃ g, e = .returned (.slice (some ⟨g, 0, none⟩) len len) ∧ w'.ownsRow w.heap.size 4 1 (.slice (some ⟨g, 0, none⟩) len len) len (zs.map Value.bool) ∧ Below w.heap.size w w' := by
  obtain ⟨i0, hi, hz0, hz1, hz2⟩ := info_parts bool_info
  have H := Lib.hid h
  have hm : len ≤ 1048600 := h.2.2.1
  clear h
  go_enter Try.func30, Try.ntmps30
  go_wp2_with (at_make; refine wpList_make_full _ rfl _ _ 31 rfl w.heap.size 4 i0 (.bool false) 1 Try.underlying31 hi hz0 hz1 .i64 .i64 _ _ len rfl rfl rfl rfl (by rw [hz2]; omega) (by unfold maxLen; omega) (Nat.le_refl _) ?_; intro w1 hown hgrow)
  have hB1 : Below w.heap.size w w1 := (Below.refl _ w).grown hgrow (Nat.le_refl _) (fun k e => by cases e)
  have HO : Hid (w1.ownsRow w.heap.size 4 1 (.slice (some ⟨w.heap.size, 0, none⟩) len len) len ((fillToB zs len 0).map Value.bool)) := by
    unfold Hid
    have e : (madeCells (Value.bool false).cells (len * 1)).toList = (fillToB zs len 0).map Value.bool := by
      rw [show (Value.bool false).cells = #[.bool false] from rfl, toList_madeCells_one]; simp [fillToB]
    rw [← e]; exact hown
  clear hown hgrow hi hz0 hz1 hz2
  go_wp2
  go_loopw [4] (fun i wr => ∃ k : Nat, k ≤ len ∧ i = .int .i64 k ∧ Hid (wr.ownsRow w.heap.size 4 1 (.slice (some ⟨w.heap.size, 0, none⟩) len len) len ((fillToB zs len k).map Value.bool)) ∧ Below w.heap.size w wr) (fun i _ => len - (intOf i).toNat)
  case atStart => exact ⟨0, Nat.zero_le _, rfl, HO, hB1⟩
  case round =>
    obtain ⟨k, hk, rfl, ho, hB⟩ := hrel
    have HI := H.out.below hB
    obtain ⟨h1, h2, h3, h4⟩ := HI
    have H1 := Lib.hid h1; clear h1
    have hfz := ho.out.frozenAt k
    by_cases hlt : k < len
    · obtain ⟨b, off, rfl, hb, hcell⟩ := h4 (by omega)
      have hck := hcell k hlt
      have hcg : wr.cell? ⟨w.heap.size, k, none⟩ = some (.bool ((fillToB zs len k)[k]?.getD false)) := by
        rw [ho.out.cellAt k (by omega)]
        have : k < (fillToB zs len k).length := by simp [fillToB, H1.out]; omega
        simp [this]
      have hst := ho.out.stored k (.bool (zs[k]?.getD false))
      have HS := Lib.hid hst
      clear hcell h4 hst
      go_wp2
      go_roundw
      case rel => exact ⟨k + 1, by omega, by go_num, by unfold Hid; rw [← fillToB_step zs len k H1.out hlt]; exact HS.out.1, hB.setCell (p := ⟨w.heap.size, k, none⟩) (Nat.le_refl _) _⟩
      case measure => simp [intOf]; omega
    · obtain rfl : k = len := by omega
      clear h4
      go_wp2
      go_ret
      exact ⟨_, rfl, by have := ho.out; rwa [fillToB_all zs k H1.out] at this, hB⟩

/-- Two lists of bools are equal. -/
def eqBB (zs ys : List Bool) : Bool := decide (zs = ys)
theorem eqBB_self (zs : List Bool) : eqBB zs zs = true := by simp [eqBB]
theorem take_stepB (zs ys : List Bool) (k : Nat) (hz : k < zs.length) (hy : k < ys.length) (h : zs.take k = ys.take k) (he : zs[k]?.getD false = ys[k]?.getD false) : zs.take (k + 1) = ys.take (k + 1) := by
  rw [List.take_succ_eq_append_getElem hz, List.take_succ_eq_append_getElem hy, h]
  simp [hz, hy] at he
  rw [he]
theorem take_partB (zs ys : List Bool) (k : Nat) (he : (zs[k]?.getD false == ys[k]?.getD false) = false) : eqBB zs ys = false := by
  simp only [eqBB, decide_eq_false_iff_not]
  rintro rfl
  simp at he

set_option maxHeartbeats 1000000 in
/-- **eqBoolS**: whether two lists are equal. -/
theorem eqBoolS_any (a : Option Addr) (len cap : Nat) (zs : List Bool) (b : Option Addr) (len' cap' : Nat) (ys : List Bool) (w : World) (h : IsBools w a len cap zs) (h' : IsBools w b len' cap' ys) :
    Calls Try.prog 31 #[.slice a len cap, .slice b len' cap'] w fun e w' => e = .returned (.bool (eqBB zs ys)) ∧ Dr w w' := by
  by_cases hl : len = len'
  · subst hl
    have hne : ((len : Int) != (len : Int)) = false := by simp
    have hm := h.2.2.1
    have H := Lib.hid h; clear h
    have H' := Lib.hid h'; clear h'
    go_enter Try.func31, Try.ntmps31
    go_wp2
    go_loopw [5] (fun i wr => ∃ k : Nat, k ≤ len ∧ i = .int .i64 k ∧ Hid (zs.take k = ys.take k) ∧ Dr w wr) (fun i _ => len - (intOf i).toNat)
    case atStart => exact ⟨0, Nat.zero_le _, rfl, by simp [Hid], Dr.refl _⟩
    case round =>
      obtain ⟨k, hk, rfl, ht, hd⟩ := hrel
      obtain ⟨h1, _, _, h4⟩ := H.out.dr hd
      obtain ⟨g1, _, _, g4⟩ := H'.out.dr hd
      have H1 := Lib.hid h1; clear h1
      have G1 := Lib.hid g1; clear g1
      by_cases hlt : k < len
      · obtain ⟨b1, o1, rfl, hb1, hc1⟩ := h4 (by omega)
        obtain ⟨b2, o2, rfl, hb2, hc2⟩ := g4 (by omega)
        have hz := hc1 k hlt
        have hy := hc2 k hlt
        clear hc1 hc2 h4 g4
        have hcase : ∀ p q : Bool, p = q ∨ p = !q := by decide
        rcases hcase (zs[k]?.getD false) (ys[k]?.getD false) with he | he
        · have HE := Lib.hid he
          rw [he] at hz
          obtain ⟨q, hq⟩ : ∃ q, ys[k]?.getD false = q := ⟨_, rfl⟩
          rw [hq] at hz hy
          clear hq he
          cases q
          all_goals
            go_wp2
            go_quiet (fail)
            go_wp2
            go_roundw
            case rel => exact ⟨k + 1, by omega, by go_num, take_stepB zs ys k (by rw [H1.out]; omega) (by rw [G1.out]; omega) ht.out HE.out, hd.drewN _⟩
            case measure => simp [intOf]; omega
        · have HE := Lib.hid he
          rw [he] at hz
          obtain ⟨q, hq⟩ : ∃ q, ys[k]?.getD false = q := ⟨_, rfl⟩
          rw [hq] at hz hy
          clear hq he
          cases q
          all_goals
            simp only [Bool.not_false, Bool.not_true] at hz
            go_wp2
            go_quiet (fail)
            go_wp2
            go_ret
            exact ⟨ret_bool (take_partB zs ys k (by rw [HE.out]; cases ys[k]?.getD false <;> rfl)).symm, hd.drewN _⟩
      · obtain rfl : k = len := by omega
        clear h4 g4
        go_wp2
        go_ret
        refine ⟨ret_bool ?_, hd⟩
        have := ht.out
        rw [List.take_of_length_le (by rw [H1.out]; omega), List.take_of_length_le (by rw [G1.out]; omega)] at this
        rw [this, eqBB_self]
  · have hne : ((len : Int) != (len' : Int)) = true := by rw [bne_iff_ne]; omega
    have e : eqBB zs ys = false := by
      simp only [eqBB, decide_eq_false_iff_not]
      rintro rfl
      exact hl (h.1.symm.trans h'.1)
    rw [e]
    clear e h h' hl
    go_enter Try.func31, Try.ntmps31
    go_wp2
    go_ret
    exact ⟨rfl, Dr.refl _⟩

end Go.Proofs.Ytapmmbngfklahaa
