/-
  What a slice of ints that the call owns says to a reader; lists that are filled, or compared. No condition but what each theorem says.
-/
import Derived.Test.YtpgnneaaemfkoaaDoorBase
import Derived.Laws.OwnMore
import Derived.OwnWalk
namespace Go.Proofs.YtpgnneaaemfkoaaDoor
open Go.RowKit

theorem int_info : (Tryd.prog.info? 3).map (fun i => (i.zero, i.size, i.bytes)) = some (some (.int .i64 0), 1, 8) := by kernel_rfl

/-- What a row that is owned says to a reader. -/
theorem IsInts.of_owns {w : World} {base g len cap : Nat} {zs : List Int} (h : w.ownsRow base 3 1 (.slice (some ⟨g, 0, none⟩) len cap) len (zs.map (Value.int .i64))) (hl : len ≤ 1048600) : IsInts w (some ⟨g, 0, none⟩) len cap zs := by
  have hlen : zs.length = len := by have := h.1; simpa using this
  have hcap : len ≤ cap := by
    rcases h.2 with ⟨e, _⟩ | ⟨_, c, _, e, _, _, hc, _⟩
    · cases e
    · injection e with _ _ e3; omega
  refine ⟨hlen, hcap, hl, fun hp => ⟨g, 0, rfl, ?_, fun j hj => ?_⟩⟩
  · exact (h.lt g rfl).2
  · rw [Nat.zero_add, h.cellAt j (by omega)]
    simp [show j < zs.length from by omega]

theorem owns_slice {w : World} {base : Nat} {e : TypeId} {size n : Nat} {v : Value} {xs : List Value} (h : w.ownsRow base e size v n xs) : ∃ a cap, v = .slice a n cap := by
  rcases h.2 with ⟨rfl, rfl⟩ | ⟨g, c, _, rfl, _⟩
  · exact ⟨none, 0, rfl⟩
  · exact ⟨_, c, rfl⟩
theorem IsInts.of_owned {w : World} {base len cap : Nat} {a : Option Addr} {zs : List Int} (h : w.ownsRow base 3 1 (.slice a len cap) len (zs.map (Value.int .i64))) (hl : len ≤ 1048600) : IsInts w a len cap zs := by
  rcases h.2 with ⟨e, e0⟩ | ⟨g, c, _, e, _⟩
  · subst e0
    have hz : zs = [] := by have := h.1; simpa using this
    subst hz
    exact ⟨rfl, Nat.zero_le _, hl, fun hp => by omega⟩
  · injection e with e1 e2 e3
    subst e1
    exact IsInts.of_owns h hl

/-- The first k of zs, then zeros: what toIntS has written when k rounds are over. -/
def fillTo (zs : List Int) (len k : Nat) : List Int := zs.take k ++ List.replicate (len - k) 0
theorem fillTo_step (zs : List Int) (len k : Nat) (hz : zs.length = len) (hk : k < len) : ((fillTo zs len k).map (Value.int .i64)).set k (.int .i64 (zs[k]?.getD 0)) = (fillTo zs len (k + 1)).map (Value.int .i64) := by
  have e : len - k = (len - (k + 1)) + 1 := by omega
  unfold fillTo
  rw [e, List.replicate_succ, List.take_succ_eq_append_getElem (by omega)]
  have hl : ((zs.take k).map (Value.int .i64)).length = k := by simp; omega
  simp only [List.map_append, List.map_cons, List.append_assoc, List.cons_append, List.nil_append]
  rw [List.set_append_right _ _ (by omega), hl, Nat.sub_self, List.set_cons_zero]
  simp [show k < zs.length from by omega]
theorem fillTo_all (zs : List Int) (len : Nat) (hz : zs.length = len) : fillTo zs len len = zs := by simp [fillTo, ← hz]

/-- Two lists of ints are equal. -/
def eqB (zs ys : List Int) : Bool := decide (zs = ys)
theorem eqB_self (zs : List Int) : eqB zs zs = true := by simp [eqB]
theorem take_step (zs ys : List Int) (k : Nat) (hz : k < zs.length) (hy : k < ys.length) (h : zs.take k = ys.take k) (he : zs[k]?.getD 0 = ys[k]?.getD 0) : zs.take (k + 1) = ys.take (k + 1) := by
  rw [List.take_succ_eq_append_getElem hz, List.take_succ_eq_append_getElem hy, h]
  simp [hz, hy] at he
  rw [he]
theorem take_part (zs ys : List Int) (k : Nat) (he : (zs[k]?.getD 0 == ys[k]?.getD 0) = false) : eqB zs ys = false := by
  simp only [eqB, decide_eq_false_iff_not]
  rintro rfl
  simp at he

end Go.Proofs.YtpgnneaaemfkoaaDoor
