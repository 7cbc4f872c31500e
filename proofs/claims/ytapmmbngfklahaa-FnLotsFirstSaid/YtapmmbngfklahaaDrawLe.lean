/-
  Who has left, drawn (l91Left): a new slice of bools; the reader has gone on. No condition but what each theorem says.
-/
import Derived.Test.YtapmmbngfklahaaDrawO
import Derived.Deep.Onto
import Derived.Test.YtapmmbngfklahaaLawsB
namespace Go.Proofs.Ytapmmbngfklahaa
open Go.RowKit

theorem IsBools.of_owned {w : World} {base len cap : Nat} {a : Option Addr} {zs : List Bool} (h : w.ownsRow base 4 1 (.slice a len cap) len (zs.map Value.bool)) (hl : len ≤ 1048600) : IsBools w a len cap zs := by
  rcases h.2 with ⟨e, e0⟩ | ⟨g, c, _, e, _⟩
  · subst e0
    have hz : zs = [] := by have := h.1; simpa using this
    subst hz
    exact ⟨rfl, Nat.zero_le _, hl, fun hp => by omega⟩
  · injection e with e1 e2 e3
    subst e1
    exact IsBools.of_owns h hl

/-- Who has left, drawn: in memory of the call's own; the reader has gone on. -/
def DrawnLeft (R p : Nat) (w : World) (e : Ending) (w' : World) : Prop := ∃ (zs : List Bool) (a : Option Addr) (cap p' : Nat), e = .returned (.slice a zs.length cap) ∧ w'.ownsRow w.heap.size 4 1 (.slice a zs.length cap) zs.length (zs.map Value.bool) ∧ zs.length ≤ 10 ∧ Rd w' R p' ∧ p' ≤ p + 10 ∧ Step R w w'

set_option maxHeartbeats 2000000 in
/-- **l91Left**. -/
theorem l91Left_any (R p n : Nat) (w : World) (h : Rd w R p) (hp : p + 30 ≤ 1000000) (hn : n ≤ 10) :
    Calls Try.prog 40 #[.pointer (some ⟨R, 0, none⟩), .int .i64 (n : Int)] w (DrawnLeft R p w) := by
  obtain ⟨i0, hi, hz0, hz1, hz2⟩ := info_parts bool_info
  have hRw := h.1
  have HO0 := Lib.hid (World.ownsRow_lit (base := w.heap.size) (e := 4) (size := 1) w #[] 0 (Nat.le_refl _) (by unfold maxLen; omega) rfl)
  have H0 : Hid (Rd (w.alloc (.cells #[] 4)) R p) := h.below ((Below.refl _ w).alloc (Nat.le_refl _) _)
  have S0 : Hid (Step R w (w.alloc (.cells #[] 4))) := (Step.refl R w).alloc _
  clear h
  go_enter Try.func40, Try.ntmps40
  go_wp2
  go_loopw [5, 6] (fun o i wr => ∃ (k : Nat) (zs : List Bool) (a : Option Addr) (cap p' : Nat), k ≤ n ∧ i = .int .i64 k ∧ o = .slice a zs.length cap ∧ Hid (wr.ownsRow w.heap.size 4 1 (.slice a zs.length cap) zs.length (zs.map Value.bool)) ∧ zs.length ≤ k ∧ Hid (Rd wr R p') ∧ p' ≤ p + k ∧ Hid (Step R w wr)) (fun _ i _ => n - (intOf i).toNat)
  case atStart => exact ⟨0, [], _, _, p, by omega, rfl, rfl, HO0, by simp, H0, by omega, S0⟩
  case round =>
    obtain ⟨k, zs, a, cap, p', hkn, rfl, rfl, ho, hzk, hr, hp', hs⟩ := hrel
    by_cases hlt : k < n
    · go_wp2_with fail
      refine (pick_any R p' 3 _ hr.out (by omega) (by omega) (by omega)).mono ?_
      rintro e w2 ⟨c, rfl, hc, hr2, hs2⟩
      have R2 := Lib.hid hr2
      have O2 := Lib.hid (owns_step ho.out hs2 hRw)
      have S2 := Lib.hid (hs.out.trans hs2)
      clear hr ho hs hr2 hs2
      go_wp2_with (at_builtin; refine wpList_append_own _ rfl _ _ 31 rfl w.heap.size 4 i0 (.bool false) 1 1 Try.underlying31 hi hz0 hz1 hz2 rfl (by decide) _ _ _ rfl (O2.out.alloc _) ⟨w2.heap.size, 0, none⟩ 1 1 [.bool ((c : Int) == 0)] rfl rfl (cell_one_new _ _ _) (by simp [Value.oneCell']) (by unfold maxLen; omega) (by omega) (by have := S2.out.size; simp; omega) ?_; intro v' w4 hown' hgrow _; obtain ⟨a4, cap4, rfl⟩ := owns_slice hown')
      have hrow : ∀ j, (Value.slice a zs.length cap).ownBlock = some j → w.heap.size ≤ j := fun j ej => (O2.out.lt j ej).1
      have R4 : Hid (Rd w4 R (p' + 1)) := (R2.out.below ((Below.refl _ w2).alloc (Nat.le_refl _) _)).grown hgrow (fun j ej => by have := hrow j ej; omega)
      have S4 : Hid (Step R w w4) := (S2.out.alloc _).grown hgrow (fun j ej => .inl (hrow j ej))
      have hlen : (zs ++ [(c : Int) == 0]).length = zs.length + 1 := by simp
      have O4 : Hid (w4.ownsRow w.heap.size 4 1 (.slice a4 (zs ++ [(c : Int) == 0]).length cap4) (zs ++ [(c : Int) == 0]).length ((zs ++ [(c : Int) == 0]).map Value.bool)) := by
        unfold Hid; rw [hlen, List.map_append]; exact hown'
      have HL := Lib.hid hlen
      clear hown' hgrow hrow hlen
      go_wp2
      go_roundw
      case rel => exact ⟨k + 1, zs ++ [(c : Int) == 0], a4, cap4, p' + 1, by omega, by go_num, by rw [HL.out], O4, by rw [HL.out]; omega, R4, by omega, S4⟩
      case measure => simp [intOf]; omega
    · go_wp2
      go_ret
      exact ⟨zs, a, cap, p', rfl, ho.out, by omega, hr.out, by omega, hs.out⟩

end Go.Proofs.Ytapmmbngfklahaa
