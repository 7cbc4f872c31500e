/-
  impl.writeOut at bool: what rows tell, in memory of the call's own. For every function value whose rows are closures over two variables.
-/
import Derived.Test.YtaaamidkfhabnaaWriteI
import Derived.Test.YtaaamidkfhabnaaOver
import Derived.Test.YtaaamidkfhabnaaGrp7
import Derived.Test.YtaaamidkfhabnaaGrp10
import Derived.Deep.RegionWith
namespace Go.Proofs.Ytaaamidkfhabnaa
open Go.RowKit

attribute [local go_sem] Oper.semAt_some

theorem bool_infoW : (Try.prog.info? 4).map (fun i => (i.zero, i.size, i.bytes)) = some (some (.bool false), 1, 1) := by kernel_rfl
theorem bools_infoW : (Try.prog.info? 69).map (fun i => (i.zero, i.size, i.bytes)) = some (some (.slice none 0 0), 1, 24) := by kernel_rfl

/-- The rows before x, and the first y cells of row x, are told. -/
def toldB (T : Nat → Nat → Bool) (x y : Nat) : Nat → Nat → Bool := fun i j => if i < x ∨ j < y then T i j else false
theorem toldB_next {T : Nat → Nat → Bool} {x y i j : Nat} (hi : i < x + 1) : (if i = x ∧ j = y then Value.bool (T x y) else Value.bool (toldB T x y i j)) = Value.bool (toldB T x (y + 1) i j) := by
  unfold toldB
  by_cases e : i = x ∧ j = y
  · obtain ⟨rfl, rfl⟩ := e
    rw [if_pos ⟨rfl, rfl⟩, if_pos (by omega)]
  · rw [if_neg e]
    by_cases e2 : i < x ∨ j < y
    · rw [if_pos e2, if_pos (by omega)]
    · rw [if_neg e2, if_neg (by omega)]
theorem zerosB_made (n : Nat) (T : Nat → Nat → Bool) (x : Nat) : (madeCells (show Value from (.bool false)).cells (n * 1)).toList = (List.range n).map (fun j => Value.bool (toldB T x 0 x j)) := by
  rw [show (show Value from (.bool false)).cells = #[(.bool false)] from rfl, toList_madeCells_one, Nat.mul_one]
  apply List.ext_getElem
  · simp
  · intro i h1 h2; simp [toldB]

set_option maxRecDepth 100000 in
set_option maxHeartbeats 4000000 in
/-- **writeOut[bool]**. -/
theorem writeB_any (n k k2 : Nat) (first cap : Array Value) (T : Nat → Nat → Bool) (w : World) (hk : Ent k) (hk2 : Ent k2) (hrow : RowOf w k first cap n k2 (fun x y => .bool (T x y))) (hn : n ≤ 5) :
    Calls Try.prog 92 #[.int .i64 (n : Int), .func (.func k) first cap] w fun e w' => ∃ g G, e = .returned (.slice (some ⟨g, 0, none⟩) n n) ∧ Tb 4 69 w' w.heap.size (some ⟨g, 0, none⟩) n n n n G (fun _ => n) (fun x y => .bool (T x y)) ∧ (∀ j, j < n → g < G j) ∧ Below w.heap.size w w' := by
  obtain ⟨i0, hi, hz0, hz1, hz2⟩ := info_parts bool_infoW
  obtain ⟨i1, hi1, hy0, hy1, hy2⟩ := info_parts bools_infoW
  have HR := Lib.hid hrow
  unfold Ent at hk hk2
  clear hrow
  go_enter Try.func92, Try.ntmps92
  go_wp2_with (at_make; refine wpList_make_full _ rfl _ _ 65 rfl w.heap.size 69 i1 (.slice none 0 0) 1 Try.underlying65 hi1 hy0 hy1 .i64 .i64 _ _ n rfl rfl rfl rfl (by rw [hy2]; omega) (by unfold maxLen; omega) (Nat.le_refl _) ?_; intro w1 hown hgrow)
  obtain ⟨g, hg⟩ : ∃ g, w.heap.size = g := ⟨_, rfl⟩
  rw [hg] at hown ⊢
  have hB1 : Below g w w1 := ((Below.refl g w).grown hgrow (by omega) (fun k e => by cases e))
  have HG := Lib.hid hg
  have HT0 : Hid (∃ G, Tb 4 69 w1 g (some ⟨g, 0, none⟩) n n 0 n G (fun _ => n) (fun x y => .bool (T x y)) ∧ ∀ j, j < 0 → g < G j) := ⟨fun _ => 0, Tb.start hown, fun j hj => by omega⟩
  clear hown hgrow hg
  go_wp2
  go_loopw [6, 7, 8, 13, 29] (fun _ _ _ xv _ wr => ∃ x : Nat, x ≤ n ∧ xv = .int .i64 (x : Int) ∧ Hid (∃ G, Tb 4 69 wr g (some ⟨g, 0, none⟩) n n x n G (fun _ => n) (fun x y => .bool (T x y)) ∧ ∀ j, j < x → g < G j) ∧ Below g w wr) (fun _ _ _ xv _ _ => n - (intOf xv).toNat)
  case atStart => exact ⟨0, Nat.zero_le _, rfl, HT0, hB1⟩
  case round =>
    clear HT0 hB1
    rename World => wx
    obtain ⟨x, hx, rfl, hT, hB⟩ := hrel
    by_cases hlt : x < n
    · obtain ⟨G, hT0, hGg⟩ := hT.out
      have hgl : g < wx.heap.size := by
        obtain ⟨g', e1, _, e2, _⟩ := hT0.head (by omega)
        injection e1 with e1
        injection e1 with e1
        omega
      go_wp2_with fail
      refine (HR.out x hlt _ (by rw [HG.out]; exact hB)).mono ?_
      rintro e w3 ⟨p, q, rfl, hrf, hb3⟩
      have hT3 := hT0.under hb3
      have hB3 : Below g w w3 := hB.trans (hb3.mono (by have := hB.size; rw [HG.out] at this; exact this))
      have HRF := Lib.hid hrf
      have hg3 : g ≤ w3.heap.size := by have := hB3.size; rw [HG.out] at this; exact this
      have HT3 := Lib.hid hT3
      have hs3 := hb3.size
      clear hT0 hT hB hb3 hrf hT3
      go_wp2_with (at_make; refine wpList_make_full _ rfl _ _ 69 rfl g 4 i0 (.bool false) 1 Try.underlying69 hi hz0 hz1 .i64 .i64 _ _ n rfl rfl rfl rfl (by rw [hz2]; omega) (by unfold maxLen; omega) hg3 ?_; intro w4 hown hgrow; have hb34 : Below w3.heap.size w3 w4 := (Below.refl _ w3).grown hgrow (Nat.le_refl _) (fun k e => by cases e); obtain ⟨v0, hc0, hf0⟩ := (HT3.out.under hb34).slot hlt)
      rw [zerosB_made n T x] at hown
      have T4 := HT3.out.under hb34
      have hlast : ∀ j, j < x → G j < w3.heap.size := fun j hj => (HT3.out.lt hj).2
      have hT5 := T4.store (by decide) hlt hown hlast
      rw [same_cap] at hT5
      have hT6 : Tb 4 69 (w4.setCell ⟨g, x, none⟩ (.slice (some ⟨w3.heap.size, 0, none⟩) n n)) g (some ⟨g, 0, none⟩) n n (x + 1) n (fun j => if j = x then w3.heap.size else G j) (fun _ => n) (fun i j => Value.bool (toldB T x 0 i j)) := hT5.congr (fun i j hi' _ => by
        by_cases e : i = x
        · subst e; simp
        · simp only [if_neg e]; unfold toldB; rw [if_pos (.inl (by omega))])
      have hb35 : Below g w3 w4 := hb34.mono hg3
      have B5 : Below g w (w4.setCell ⟨g, x, none⟩ (.slice (some ⟨w3.heap.size, 0, none⟩) n n)) := (hB3.trans hb35).setCell (p := ⟨g, x, none⟩) (Nat.le_refl _) _
      have N5 : Hid (Near g wx.heap.size w3.heap.size w3 (w4.setCell ⟨g, x, none⟩ (.slice (some ⟨w3.heap.size, 0, none⟩) n n))) := ((Near.of_below hb34 hg3 (Nat.le_refl _)).trans (Near.set (b := g) (Nat.le_refl _) (by omega)))
      obtain ⟨gr, hgr⟩ : ∃ gr, w3.heap.size = gr := ⟨_, rfl⟩
      rw [hgr] at hT6 B5 N5 hs3 ⊢
      have HT6 := Lib.hid hT6
      have HGR : Hid (∀ j, j < x + 1 → g < (if j = x then gr else G j)) := fun j hj => by
        by_cases e : j = x
        · rw [if_pos e]; omega
        · rw [if_neg e]; exact hGg j (by omega)
      obtain ⟨G', hG'⟩ : ∃ G' : Nat → Nat, (fun j => if j = x then gr else G j) = G' := ⟨_, rfl⟩
      rw [hG'] at HT6
      have HGR : Hid (∀ j, j < x + 1 → g < G' j) := fun j hj => by rw [← hG']; exact HGR.out j hj
      have hG'x : G' x = gr := by rw [← hG']; simp
      clear hT5 hT6 T4 hlast hown hgrow hb34 hc0 hf0 hB3 hb35 hGg HT3 hgl hG' hg3
      have c5 := HT6.out.row_cell (Nat.lt_succ_self x) (by omega)
      rw [hG'x] at c5
      go_wp2
      clear c5
      go_loopw [8, 29] (fun _ yv wr => ∃ y : Nat, y ≤ n ∧ yv = .int .i64 (y : Int) ∧ Hid (Tb 4 69 wr g (some ⟨g, 0, none⟩) n n (x + 1) n G' (fun _ => n) (fun i j => Value.bool (toldB T x y i j))) ∧ Hid (Near g wx.heap.size gr w3 wr) ∧ Below g w wr) (fun _ yv _ => n - (intOf yv).toNat)
      case atStart => exact ⟨0, Nat.zero_le _, rfl, HT6, N5, B5⟩
      case round =>
        clear HT6 N5 B5
        rename World => w5
        obtain ⟨y, hy, rfl, hT7, hN, hB7⟩ := hrel
        by_cases hlt2 : y < n
        · have rx := hT7.out.row_cell (Nat.lt_succ_self x) (by omega)
          have cx := hT7.out.cell (Nat.lt_succ_self x) hlt2
          have fx := hT7.out.frozen (Nat.lt_succ_self x) y
          rw [hG'x] at rx cx fx
          have hset := hT7.out.set (by decide) (Nat.lt_succ_self x) hlt2 (Value.bool (T x y))
          obtain ⟨v, hv⟩ : ∃ v, T x y = v := ⟨_, rfl⟩
          have T8 : Hid (Tb 4 69 (w5.setCell ⟨G' x, y, none⟩ (Value.bool v)) g (some ⟨g, 0, none⟩) n n (x + 1) n G' (fun _ => n) (fun i j => Value.bool (toldB T x (y + 1) i j))) := by
            rw [hv] at hset
            exact hset.1.congr (fun i j hi' _ => by rw [← toldB_next hi', hv])
          have hgG := (hT7.out.lt (Nat.lt_succ_self x)).1
          rw [hG'x] at T8 hgG
          have B8 : Below g w (w5.setCell ⟨gr, y, none⟩ (Value.bool v)) := hB7.setCell (p := ⟨gr, y, none⟩) hgG _
          have N8 : Hid (Near g wx.heap.size gr w3 (w5.setCell ⟨gr, y, none⟩ (Value.bool v))) := hN.out.trans (Near.set (b := gr) hgG (by omega))
          have HC : Hid (∀ u : World, u.heap = w5.heap → Calls Try.prog k2 #[.int .i64 (y : Int), .pointer (some ⟨p, 0, none⟩), .pointer (some ⟨q, 0, none⟩)] u fun e w'' => e = .returned (Value.bool v) ∧ Dr u w'') := fun u hu => by
            have := HRF.out u ⟨by rw [hu]; exact hN.out.size, by rw [hu, hgr, HG.out]; exact hN.out.block⟩ y hlt2
            simp only [hv] at this
            exact this
          have hxi : (x : Int) < (n : Int) := by omega
          have hyi : (y : Int) < (n : Int) := by omega
          clear hset hgG hT7 hN hB7 hv
          go_wp2_with fail
          go_region_with (refine (HC.out w5.drew rfl).mono ?_; rintro e w6 ⟨rfl, q6, rfl⟩)
          all_goals
            go_wp2
            go_roundw
            case rel => exact ⟨y + 1, by omega, by go_num, by unfold Hid; exact T8.out.under ⟨rfl, rfl, rfl, Nat.le_refl _, fun _ _ => rfl⟩, ⟨N8.out.size, N8.out.block⟩, B8.trans ⟨rfl, rfl, rfl, Nat.le_refl _, fun _ _ => rfl⟩⟩
            case measure => simp [intOf]; omega
        · obtain rfl : y = n := by omega
          have T9 : Hid (∃ G, Tb 4 69 w5 g (some ⟨g, 0, none⟩) y y (x + 1) y G (fun _ => y) (fun x y => .bool (T x y)) ∧ ∀ j, j < x + 1 → g < G j) :=
            ⟨G', hT7.out.congr (fun i j hi' hj => by unfold toldB; rw [if_pos (.inr hj)]), HGR.out⟩
          go_wp2
          go_roundw
          case rel => exact ⟨x + 1, by omega, by go_num, T9, hB7⟩
          case measure => simp [intOf]; omega
    · obtain rfl : x = n := by omega
      obtain ⟨G, hT0, hGg⟩ := hT.out
      have HT0 := Lib.hid hT0
      have HGG := Lib.hid hGg
      clear hT hT0 hGg
      go_wp2
      go_ret
      exact ⟨g, G, rfl, by rw [HG.out]; exact HT0.out, HGG.out, by rw [HG.out]; exact hB⟩

end Go.Proofs.Ytaaamidkfhabnaa
