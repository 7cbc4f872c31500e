/-
  The drawn readers (DrawMarksAgree): at most seven rows of at most seven ints, in memory of the call's own. No condition but what each theorem says.
-/
import Derived.Test.YtpgnneaaemfkoaaDrawM
import Derived.Test.YtpgnneaaemfkoaaGridL
import Derived.Test.YtpgnneaaemfkoaaStepA
namespace Go.Proofs.Ytpgnneaaemfkoaa
open Go.RowKit

/-- Two rows of other types are other blocks. -/
theorem other_type {w : World} {base base' size size' n n' : Nat} {e e' : TypeId} {v v' : Value} {xs xs' : List Value} (h : w.ownsRow base e size v n xs) (h' : w.ownsRow base' e' size' v' n' xs') (hne : e ≠ e') : v.ownBlock = none ∨ v.ownBlock ≠ v'.ownBlock := by
  rcases h.2 with ⟨rfl, _⟩ | ⟨g, cap, cur, rfl, _, hgb, _⟩
  · exact .inl rfl
  · refine .inr fun e1 => ?_
    rcases h'.2 with ⟨rfl, _⟩ | ⟨g', cap', cur', rfl, _, hgb', _⟩
    · simp [Value.ownBlock] at e1
    · obtain rfl : g = g' := by simpa [Value.ownBlock] using e1
      rw [hgb] at hgb'
      simp at hgb'
      exact hne hgb'.2

/-- The values V are rows of the call's own: the lists rs. -/
def RowsOwn (w : World) (base : Nat) (V : List Value) (rs : List (List Int)) : Prop :=
  V.length = rs.length ∧ ∀ j, j < rs.length → ∃ aj cj, V[j]? = some (.slice aj (rs[j]?.getD []).length cj) ∧ w.ownsRow base 3 1 (.slice aj (rs[j]?.getD []).length cj) (rs[j]?.getD []).length ((rs[j]?.getD []).map (Value.int .i64)) ∧ (rs[j]?.getD []).length ≤ 7

theorem RowsOwn.step {w w' : World} {base R : Nat} {V : List Value} {rs : List (List Int)} (h : RowsOwn w base V rs) (hs : Step R w w') (hR : R < base) : RowsOwn w' base V rs :=
  ⟨h.1, fun j hj => by obtain ⟨aj, cj, h1, h2, h3⟩ := h.2 j hj; exact ⟨aj, cj, h1, owns_step h2 hs hR, h3⟩⟩
theorem RowsOwn.under {w w' : World} {base : Nat} {V : List Value} {rs : List (List Int)} (h : RowsOwn w base V rs) (hb : Below w.heap.size w w') : RowsOwn w' base V rs :=
  ⟨h.1, fun j hj => by obtain ⟨aj, cj, h1, h2, h3⟩ := h.2 j hj; exact ⟨aj, cj, h1, owns_under h2 hb, h3⟩⟩
theorem RowsOwn.outer {w w' : World} {base n : Nat} {v : Value} {V xs : List Value} {rs : List (List Int)} (h : RowsOwn w base V rs) (ho : w.ownsRow base 25 1 v n xs) (hg : w.grownBy w' v.ownBlock) : RowsOwn w' base V rs :=
  ⟨h.1, fun j hj => by obtain ⟨aj, cj, h1, h2, h3⟩ := h.2 j hj; exact ⟨aj, cj, h1, h2.kept hg (other_type h2 ho (by decide)), h3⟩⟩
theorem RowsOwn.snoc {w : World} {base c : Nat} {a : Option Addr} {V : List Value} {rs : List (List Int)} {zs : List Int} (h : RowsOwn w base V rs) (ho : w.ownsRow base 3 1 (.slice a zs.length c) zs.length (zs.map (Value.int .i64))) (hl : zs.length ≤ 7) :
    RowsOwn w base (V ++ [.slice a zs.length c]) (rs ++ [zs]) := by
  refine ⟨by simp [h.1], fun j hj => ?_⟩
  have hV := h.1
  by_cases e : j < rs.length
  · rw [List.getElem?_append_left (by omega), List.getElem?_append_left e]
    exact h.2 j e
  · obtain rfl : j = rs.length := by simp at hj; omega
    have e1 : (rs ++ [zs])[rs.length]?.getD [] = zs := by simp
    rw [e1, ← hV]
    exact ⟨a, c, by simp, ho, hl⟩
theorem RowsOwn.set {w : World} {base c x : Nat} {a : Option Addr} {V : List Value} {rs : List (List Int)} {zs : List Int} (h : RowsOwn w base V rs) (hx : x < rs.length) (ho : w.ownsRow base 3 1 (.slice a zs.length c) zs.length (zs.map (Value.int .i64))) (hl : zs.length ≤ 7) :
    RowsOwn w base (V.set x (.slice a zs.length c)) (rs.set x zs) := by
  refine ⟨by simp [h.1], fun j hj => ?_⟩
  have hV := h.1
  have hj' : j < rs.length := by simpa using hj
  by_cases e : x = j
  · subst e
    have e1 : (rs.set x zs)[x]?.getD [] = zs := by simp [hx]
    rw [e1, List.getElem?_set_self (by omega)]
    exact ⟨a, c, rfl, ho, hl⟩
  · rw [List.getElem?_set_ne e, List.getElem?_set_ne e]
    exact h.2 j hj'
theorem rows_of {w : World} {base len cap : Nat} {a : Option Addr} {V : List Value} {rs : List (List Int)} (ho : w.ownsRow base 25 1 (.slice a len cap) len V) (h : RowsOwn w base V rs) (hl : rs.length = len) (h7 : len ≤ 1048600) : IsRows w a len cap rs := by
  rcases ho.2 with ⟨e, e0⟩ | ⟨g, c, cur, e, hb, hgb, hc, _⟩
  · subst e0
    exact ⟨hl, Nat.zero_le _, h7, fun hp => by omega⟩
  · injection e with e1 e2 e3
    subst e1; subst e3
    refine ⟨hl, hc, h7, fun hp => ⟨g, 0, rfl, (ho.lt g rfl).2, fun j hj => ?_⟩⟩
    obtain ⟨aj, cj, h1, h2, h3⟩ := h.2 j (by omega)
    exact ⟨aj, _, cj, by rw [Nat.zero_add, ho.cellAt j (by omega), h1], IsInts.of_owned h2 (by omega)⟩

/-- What the draw of readers says to its caller. -/
def DrawnRows (w : World) (e : Ending) (w' : World) : Prop := ∃ (rs : List (List Int)) (a : Option Addr) (cap : Nat), e = .returned (.slice a rs.length cap) ∧ IsRows w' a rs.length cap rs ∧ rs.length ≤ 7 ∧ Below w.heap.size w w'

set_option maxHeartbeats 4000000 in
/-- **DrawMarksAgree**. -/
theorem drawAgree_any (a : Option Addr) (len cap : Nat) (bs : List Int) (w : World) (h : IsBytes w a len bs) (hcap : len ≤ cap) (hl : len ≤ 1048600) :
    Calls Try.prog 8 #[.slice a len cap] w (DrawnRows w) := by
  obtain ⟨i0, hi, hz0, hz1, hz2⟩ := info_parts int_info
  obtain ⟨is, hsi, hs0, hs1, hs2⟩ := info_parts slice_info
  have H := Lib.hid h; clear h
  go_enter Try.func8, Try.ntmps8
  go_wp2_with fail
  refine (open_any a len cap bs _ H.out hcap hl).mono ?_
  rintro e w1 ⟨rfl, hr, hb⟩
  obtain ⟨R, hR⟩ : ∃ R, w.heap.size = R := ⟨_, rfl⟩
  rw [hR] at hr hb ⊢
  have HRR := Lib.hid hR
  clear hR
  have R1 := Lib.hid hr
  have B1 := Lib.hid hb
  have hw1 : R < w1.heap.size := hr.1
  clear hr hb H
  go_wp2_with fail
  refine (pick_any R 0 5 _ R1.out (by omega) (by omega) (by omega)).mono ?_
  rintro e w2 ⟨m, rfl, hm, hr, hs⟩
  have R2 := Lib.hid hr
  have S2 := Lib.hid hs
  clear hr hs R1
  obtain ⟨n, hn⟩ : ∃ n, 1 + m = n := ⟨_, rfl⟩
  have hn1 : 1 ≤ n ∧ n ≤ 5 := by omega
  obtain ⟨hn1, hn5⟩ := hn1
  have hnm : (1 + (m : Int)) = (n : Int) := by omega
  go_wp2_with fail
  clear hnm hn hm
  refine (l91Marks_any R 1 n _ R2.out (by omega) (by omega)).mono ?_
  rintro e w3 ⟨ms, a3, c3, p3, rfl, ho3, hms, hr, hp3, hs⟩
  obtain ⟨gm, rfl⟩ : ∃ g, a3 = some ⟨g, 0, none⟩ := by
    rcases ho3.2 with ⟨_, e0⟩ | ⟨g, c, _, e, hb, _⟩
    · omega
    · injection e with e1 _ _; exact ⟨g, e1⟩
  have R3 := Lib.hid hr
  have hw2 : w1.heap.size ≤ w2.heap.size := S2.out.size
  have M3 := Lib.hid (World.ownsRow.mono (base' := w1.heap.size) ho3 hw2)
  have S3 := Lib.hid (S2.out.trans hs)
  have HMS := Lib.hid hms
  clear ho3 hr hs hms R2 S2 hw2
  have hRB0 := hw1
  obtain ⟨Bs, hBs⟩ : ∃ Bs, w1.heap.size = Bs := ⟨_, rfl⟩
  rw [hBs] at M3 hRB0
  have hRB : R < Bs := hRB0
  have OO0 : Hid ((w3.alloc (.cells #[] 25)).ownsRow Bs 25 1 (.slice (some ⟨w3.heap.size, 0, none⟩) 0 0) 0 []) := World.ownsRow_lit (base := Bs) (e := 25) (size := 1) w3 #[] 0 (by have := S3.out.size; omega) (by unfold maxLen; omega) rfl
  have M4 : Hid ((w3.alloc (.cells #[] 25)).ownsRow Bs 3 1 (.slice (some ⟨gm, 0, none⟩) n c3) n (ms.map (Value.int .i64))) := M3.out.alloc _
  have R4 : Hid (Rd (w3.alloc (.cells #[] 25)) R p3) := R3.out.below ((Below.refl _ w3).alloc (Nat.le_refl _) _)
  have S4 : Hid (Step R w1 (w3.alloc (.cells #[] 25))) := S3.out.alloc _
  clear M3 R3 S3 hRB0
  go_wp2_with fail
  refine (pick_any R p3 5 _ R4.out (by omega) (by omega) (by omega)).mono ?_
  rintro e w4 ⟨m5, rfl, hm5, hr, hs⟩
  have R5 := Lib.hid hr
  have S5 := Lib.hid (S4.out.trans hs)
  have M5 := Lib.hid (owns_step M4.out hs hRB)
  have OO5 := Lib.hid (owns_step OO0.out hs hRB)
  clear hr hs R4 S4 M4 OO0
  go_wp2_with fail
  refine (pick_any R (p3 + 1) 12 _ R5.out (by omega) (by omega) (by omega)).mono ?_
  rintro e w5 ⟨d, rfl, hd, hr, hs⟩
  have R6 := Lib.hid hr
  have S6 := Lib.hid (S5.out.trans hs)
  have M6 := Lib.hid (owns_step M5.out hs hRB)
  have OO6 := Lib.hid (owns_step OO5.out hs hRB)
  clear hr hs R5 S5 M5 OO5
  cases hd0 : ((d : Int) == 0)
  · obtain ⟨many, hmany⟩ : ∃ many, 1 + m5 = many := ⟨_, rfl⟩
    have hmi : (1 + (m5 : Int)) = (many : Int) := by omega
    have hm7 : many ≤ 7 := by omega
    have OO := OO6
    have MM := M6
    have RP := R6
    have SP := S6
    have RWO : Hid (RowsOwn w5 Bs [] []) := ⟨rfl, fun j hj => by simp at hj⟩
    clear OO6 M6 R6 S6 hmany hm5
    go_wp2
    go_loopw [6, 8] (fun o i wr => ∃ (k : Nat) (rs : List (List Int)) (V : List Value) (ao : Option Addr) (co p' : Nat), k ≤ many ∧ i = .int .i64 k ∧ o = .slice ao k co ∧ Hid (wr.ownsRow Bs 25 1 (.slice ao k co) k V) ∧ Hid (RowsOwn wr Bs V rs) ∧ Hid (rs.length = k) ∧ Hid (wr.ownsRow Bs 3 1 (.slice (some ⟨gm, 0, none⟩) n c3) n (ms.map (Value.int .i64))) ∧ Hid (Rd wr R p') ∧ p' ≤ (p3 + 1 + 1) + 3 * k ∧ Hid (Step R w1 wr) ∧ Bs ≤ wr.heap.size) (fun _ i _ => many - (intOf i).toNat)
    case atStart => exact ⟨0, [], [], _, _, (p3 + 1 + 1), by omega, rfl, rfl, OO, RWO, rfl, MM, RP, by omega, SP, by have := SP.out.size; rw [hBs] at this; exact this⟩
    case round =>
      obtain ⟨k, rs, V, ao, co, p', hkm, rfl, rfl, ho, hro, hrl, hms, hr, hp', hs, hsz⟩ := hrel
      by_cases hlt : k < many
      · have hlit := Lib.hid (World.ownsRow_lit (base := wr.heap.size) (e := 3) (size := 1) wr #[] 0 (Nat.le_refl _) (by unfold maxLen; omega) rfl)
        have hua : Below wr.heap.size wr (wr.alloc (.cells #[] 3)) := (Below.refl _ wr).alloc (Nat.le_refl _) _
        have hcs := Lib.hid (own_cells (owns_under hms.out hua))
        have HLm : Hid ((ms.map (Value.int .i64)).length = n * 1) := by unfold Hid; simp [HMS.out]
        go_wp2_with (at_builtin; refine wpList_append_own _ rfl _ _ 25 rfl wr.heap.size 3 i0 (.int .i64 0) 1 8 Try.underlying25 hi hz0 hz1 hz2 rfl (by decide) _ _ _ rfl hlit.out ⟨gm, 0, none⟩ n _ (ms.map (Value.int .i64)) rfl HLm.out hcs.out (ints_one' _) (by unfold maxLen; omega) (by omega) (by simp) ?_; intro v' w4 hown' hgrow _; obtain ⟨a5, c5, rfl⟩ := owns_slice hown')
        simp only [Nat.zero_add, List.nil_append] at hown' ⊢
        have S4 : Hid (Step R wr w4) := ((Step.refl R wr).alloc _).grown hgrow (fun j ej => .inl (by have := own_at ej; omega))
        have R4 : Hid (Rd w4 R p') := (hr.out.below hua).grown hgrow (fun j ej => by have := own_at ej; have := hr.out.1; omega)
        have F4 := Lib.hid hown'
        clear hown' hgrow hlit hua hcs HLm
        go_wp2_with fail
        refine (pick_any R p' 3 _ R4.out (by omega) (by omega) (by omega)).mono ?_
        rintro e w5 ⟨d, rfl, hd, hr5, hs5⟩
        have hRwr : R < wr.heap.size := by omega
        have R5 := Lib.hid hr5
        have S5 := Lib.hid (S4.out.trans hs5)
        have F5 := Lib.hid (owns_step F4.out hs5 hRwr)
        clear hr5 hs5 R4 S4 F4
        cases hd0 : ((d : Int) == 0)
        · have RR := R5
          have SR := S5
          have FR := F5
          have HZR := HMS
          obtain ⟨zr, hzr⟩ : ∃ zr, ms = zr := ⟨_, rfl⟩
          have FR : Hid (w5.ownsRow wr.heap.size 3 1 (.slice a5 n c5) n (zr.map (Value.int .i64))) := by rw [← hzr]; exact F5
          have HZR : Hid (zr.length = n) := by rw [← hzr]; exact HMS
          clear R5 S5 F5 hzr
          have O7 := Lib.hid (owns_step ho.out SR.out hRB)
          have RW7 : Hid (RowsOwn w5 Bs V rs) := hro.out.step SR.out hRB
          have FR7 := Lib.hid (World.ownsRow.mono (base' := Bs) FR.out hsz)
          have M7 := Lib.hid (owns_step hms.out SR.out hRB)
          have S7 := Lib.hid (hs.out.trans SR.out)
          have hszW : Bs ≤ w5.heap.size := Nat.le_trans hsz SR.out.size
          clear ho hro hs hms hr SR FR
          go_wp2_with (at_builtin; refine wpList_append_own _ rfl _ _ 23 rfl Bs 25 is (.slice none 0 0) 1 24 Try.underlying23 hsi hs0 hs1 hs2 rfl (by decide) _ _ _ rfl (O7.out.alloc _) ⟨w5.heap.size, 0, none⟩ 1 1 [.slice a5 n c5] rfl rfl (cell_one_new _ _ _) (by simp [Value.oneCell']) (by unfold maxLen; omega) (by omega) (by simp; omega) ?_; intro v' w8 hown' hgrow _; obtain ⟨a8, c8, rfl⟩ := owns_slice hown')
          have hrow : ∀ j, (Value.slice ao k co).ownBlock = some j → Bs ≤ j := fun j ej => (O7.out.lt j ej).1
          have R8 : Hid (Rd w8 R (p' + 1)) := (RR.out.below ((Below.refl _ w5).alloc (Nat.le_refl _) _)).grown hgrow (fun j ej => by have := hrow j ej; omega)
          have S8 : Hid (Step R w1 w8) := (S7.out.alloc _).grown hgrow (fun j ej => .inl (by rw [hBs]; exact hrow j ej))
          have hua : Below w5.heap.size w5 (w5.alloc (.cells #[.slice a5 n c5] 25)) := (Below.refl _ w5).alloc (Nat.le_refl _) _
          have RW8 : Hid (RowsOwn w8 Bs (V ++ [.slice a5 n c5]) (rs ++ [zr])) := by
            have h1 := (RW7.out.under hua).outer (O7.out.alloc _) hgrow
            have h2 : w8.ownsRow Bs 3 1 (.slice a5 n c5) n (zr.map (Value.int .i64)) := (owns_under FR7.out hua).kept hgrow (other_type (owns_under FR7.out hua) (O7.out.alloc _) (by decide))
            have h3 := h1.snoc (a := a5) (c := c5) (zs := zr) (by rw [HZR.out]; exact h2) (by rw [HZR.out]; omega)
            rw [HZR.out] at h3
            exact h3
          have M8 : Hid (w8.ownsRow Bs 3 1 (.slice (some ⟨gm, 0, none⟩) n c3) n (ms.map (Value.int .i64))) := (owns_under M7.out hua).kept hgrow (other_type (owns_under M7.out hua) (O7.out.alloc _) (by decide))
          have HL8 : Hid ((rs ++ [zr]).length = k + 1) := by unfold Hid; simp [hrl.out]
          have O8 : Hid (w8.ownsRow Bs 25 1 (.slice a8 (k + 1) c8) (k + 1) (V ++ [.slice a5 n c5])) := hown'
          have hsz8 : Bs ≤ w8.heap.size := by have := hgrow.size; simp at this; omega
          clear hown' hgrow hrow hua RW7 FR7 M7 S7 O7 RR HZR
          go_wp2
          go_roundw
          case rel => exact ⟨k + 1, rs ++ [zr], V ++ [.slice a5 n c5], a8, c8, (p' + 1), by omega, by go_num, rfl, O8, RW8, HL8, M8, R8, by omega, S8, hsz8⟩
          case measure => simp [intOf]; omega
        · go_wp2_with fail
          refine (pick_any R (p' + 1) (n : Int) _ R5.out (by omega) (by omega) (by omega)).mono ?_
          rintro e w6 ⟨x, rfl, hx, hr6, hs6⟩
          have R6 := Lib.hid hr6
          have S6 := Lib.hid (S5.out.trans hs6)
          have F6 := Lib.hid (owns_step F5.out hs6 hRwr)
          clear hr6 hs6 R5 S5 F5
          go_wp2_with fail
          refine (pick_any R (p' + 1 + 1) 4 _ R6.out (by omega) (by omega) (by omega)).mono ?_
          rintro e w7 ⟨y, rfl, hy, hr7, hs7⟩
          have R7' := Lib.hid hr7
          have S7' := Lib.hid (S6.out.trans hs7)
          have F7' := Lib.hid (owns_step F6.out hs7 hRwr)
          clear hr7 hs7 R6 S6 F6
          obtain ⟨g5, rfl, hg5⟩ : ∃ g, a5 = some ⟨g, 0, none⟩ ∧ wr.heap.size ≤ g := by
            rcases F7'.out.2 with ⟨_, e0⟩ | ⟨g, c, _, e, hb, _⟩
            · omega
            · injection e with e1 _ _; exact ⟨g, e1, hb⟩
          have hxn : x < n := by omega
          have hcg : w7.cell? ⟨g5, x, none⟩ = some (.int .i64 (ms[x]?.getD 0)) := by
            rw [F7'.out.cellAt x (by omega)]
            simp [show x < ms.length from by rw [HMS.out]; exact hxn]
          have hfz := F7'.out.frozenAt x
          have HST := Lib.hid (F7'.out.stored x (.int .i64 (y : Int)))
          have RR : Hid (Rd (w7.setCell ⟨g5, x, none⟩ (.int .i64 (y : Int))) R (p' + 1 + 1 + 1)) := R7'.out.grown HST.out.2 (fun j e => by cases e; omega)
          have SR : Hid (Step R wr (w7.setCell ⟨g5, x, none⟩ (.int .i64 (y : Int)))) := S7'.out.grown HST.out.2 (fun j e => by cases e; exact .inl hg5)
          obtain ⟨zr, hzr⟩ : ∃ zr, ms.set x (y : Int) = zr := ⟨_, rfl⟩
          have FR : Hid ((w7.setCell ⟨g5, x, none⟩ (.int .i64 (y : Int))).ownsRow wr.heap.size 3 1 (.slice (some ⟨g5, 0, none⟩) n c5) n (zr.map (Value.int .i64))) := by rw [← hzr, ← map_set_int]; exact HST.out.1
          have HZR : Hid (zr.length = n) := by rw [← hzr]; unfold Hid; rw [List.length_set]; exact HMS.out
          clear HST R7' S7' F7' hzr
          obtain ⟨wS, hwS⟩ : ∃ wS, w7.setCell ⟨g5, x, none⟩ (.int .i64 (y : Int)) = wS := ⟨_, rfl⟩
          rw [hwS] at RR SR FR
          have O7 := Lib.hid (owns_step ho.out SR.out hRB)
          have RW7 : Hid (RowsOwn wS Bs V rs) := hro.out.step SR.out hRB
          have FR7 := Lib.hid (World.ownsRow.mono (base' := Bs) FR.out hsz)
          have M7 := Lib.hid (owns_step hms.out SR.out hRB)
          have S7 := Lib.hid (hs.out.trans SR.out)
          have hszW : Bs ≤ wS.heap.size := Nat.le_trans hsz SR.out.size
          clear ho hro hs hms hr SR FR
          go_wp2_with (at_builtin; refine wpList_append_own _ rfl _ _ 23 rfl Bs 25 is (.slice none 0 0) 1 24 Try.underlying23 hsi hs0 hs1 hs2 rfl (by decide) _ _ _ rfl (O7.out.alloc _) ⟨wS.heap.size, 0, none⟩ 1 1 [.slice (some ⟨g5, 0, none⟩) n c5] rfl rfl (cell_one_new _ _ _) (by simp [Value.oneCell']) (by unfold maxLen; omega) (by omega) (by simp; omega) ?_; intro v' w8 hown' hgrow _; obtain ⟨a8, c8, rfl⟩ := owns_slice hown')
          have hrow : ∀ j, (Value.slice ao k co).ownBlock = some j → Bs ≤ j := fun j ej => (O7.out.lt j ej).1
          have R8 : Hid (Rd w8 R (p' + 1 + 1 + 1)) := (RR.out.below ((Below.refl _ wS).alloc (Nat.le_refl _) _)).grown hgrow (fun j ej => by have := hrow j ej; omega)
          have S8 : Hid (Step R w1 w8) := (S7.out.alloc _).grown hgrow (fun j ej => .inl (by rw [hBs]; exact hrow j ej))
          have hua : Below wS.heap.size wS (wS.alloc (.cells #[.slice (some ⟨g5, 0, none⟩) n c5] 25)) := (Below.refl _ wS).alloc (Nat.le_refl _) _
          have RW8 : Hid (RowsOwn w8 Bs (V ++ [.slice (some ⟨g5, 0, none⟩) n c5]) (rs ++ [zr])) := by
            have h1 := (RW7.out.under hua).outer (O7.out.alloc _) hgrow
            have h2 : w8.ownsRow Bs 3 1 (.slice (some ⟨g5, 0, none⟩) n c5) n (zr.map (Value.int .i64)) := (owns_under FR7.out hua).kept hgrow (other_type (owns_under FR7.out hua) (O7.out.alloc _) (by decide))
            have h3 := h1.snoc (a := (some ⟨g5, 0, none⟩)) (c := c5) (zs := zr) (by rw [HZR.out]; exact h2) (by rw [HZR.out]; omega)
            rw [HZR.out] at h3
            exact h3
          have M8 : Hid (w8.ownsRow Bs 3 1 (.slice (some ⟨gm, 0, none⟩) n c3) n (ms.map (Value.int .i64))) := (owns_under M7.out hua).kept hgrow (other_type (owns_under M7.out hua) (O7.out.alloc _) (by decide))
          have HL8 : Hid ((rs ++ [zr]).length = k + 1) := by unfold Hid; simp [hrl.out]
          have O8 : Hid (w8.ownsRow Bs 25 1 (.slice a8 (k + 1) c8) (k + 1) (V ++ [.slice (some ⟨g5, 0, none⟩) n c5])) := hown'
          have hsz8 : Bs ≤ w8.heap.size := by have := hgrow.size; simp at this; omega
          clear hown' hgrow hrow hua RW7 FR7 M7 S7 O7 RR HZR
          go_wp2
          go_roundw
          case rel => exact ⟨k + 1, rs ++ [zr], V ++ [.slice (some ⟨g5, 0, none⟩) n c5], a8, c8, (p' + 1 + 1 + 1), by omega, by go_num, rfl, O8, RW8, HL8, M8, R8, by omega, S8, hsz8⟩
          case measure => simp [intOf]; omega
      · obtain rfl : k = many := by omega
        rcases Nat.eq_zero_or_pos k with hz | hz
        · have hz1 : (k : Int) ≤ 0 := by omega
          subst hz
          go_wp2
          go_ret
          exact ⟨rs, ao, co, by rw [hrl.out]; rfl, by rw [hrl.out]; exact rows_of ho.out hro.out hrl.out (by omega), by rw [hrl.out]; omega, by rw [HRR.out]; exact B1.out.trans (hs.out.below (Nat.le_refl _) (by omega))⟩
        · go_wp2_with fail
          refine (pick_any R p' 16 _ hr.out (by omega) (by omega) (by omega)).mono ?_
          rintro e w6 ⟨d, rfl, hd, hr6, hs6⟩
          have R6 := Lib.hid hr6
          have O6 := Lib.hid (owns_step ho.out hs6 hRB)
          have RW6 := Lib.hid (hro.out.step hs6 hRB)
          have S6 := Lib.hid (hs.out.trans hs6)
          clear hr6 hs6 hr ho hro hs hms
          cases hd0 : ((d : Int) == 0)
          · go_wp2
            go_ret
            exact ⟨rs, ao, co, by rw [hrl.out]; rfl, by rw [hrl.out]; exact rows_of O6.out RW6.out hrl.out (by omega), by rw [hrl.out]; omega, by rw [HRR.out]; exact B1.out.trans (S6.out.below (Nat.le_refl _) (by omega))⟩
          · go_wp2_with fail
            refine (pick_any R (p' + 1) (k : Int) _ R6.out (by omega) (by omega) (by omega)).mono ?_
            rintro e w7 ⟨x, rfl, hx, hr7, hs7⟩
            have hxk : x < k := by omega
            have R7 := Lib.hid hr7
            have O7 := Lib.hid (owns_step O6.out hs7 hRB)
            have RW7 := Lib.hid (RW6.out.step hs7 hRB)
            have S7 := Lib.hid (S6.out.trans hs7)
            clear hr7 hs7 R6 O6 RW6 S6
            go_wp2_with fail
            refine (pick_any R (p' + 1 + 1) 6 _ R7.out (by omega) (by omega) (by omega)).mono ?_
            rintro e w8 ⟨y, rfl, hy, hr8, hs8⟩
            have R8 := Lib.hid hr8
            have O8 := Lib.hid (owns_step O7.out hs8 hRB)
            have RW8 := Lib.hid (RW7.out.step hs8 hRB)
            have S8 := Lib.hid (S7.out.trans hs8)
            have hsz8 : Bs ≤ w8.heap.size := by have := S8.out.size; omega
            clear hr8 hs8 R7 O7 RW7 S7
            go_wp2_with fail
            refine (l91Marks_any R (p' + 1 + 1 + 1) y _ R8.out (by omega) (by omega)).mono ?_
            rintro e w9 ⟨zs, a9, c9, p9', rfl, ho9, hz9, hr9, hp9, hs9⟩
            have F9 := Lib.hid (World.ownsRow.mono (base' := Bs) ho9 hsz8)
            have O9 := Lib.hid (owns_step O8.out hs9 hRB)
            have RW9 := Lib.hid (RW8.out.step hs9 hRB)
            have S9 := Lib.hid (S8.out.trans hs9)
            have HZ9 := Lib.hid hz9
            clear hr9 hs9 R8 O8 RW8 S8 ho9 hz9
            obtain ⟨go, rfl, hgo⟩ : ∃ g, ao = some ⟨g, 0, none⟩ ∧ Bs ≤ g := by
              rcases O9.out.2 with ⟨_, e0⟩ | ⟨g, c, _, e, hb, _⟩
              · omega
              · injection e with e1 _ _; exact ⟨g, e1, hb⟩
            have hVl : V.length = k := by have := O9.out.1; omega
            have hcg : w9.cell? ⟨go, x, none⟩ = some (V[x]'(by omega)) := by
              rw [O9.out.cellAt x (by omega)]
              exact List.getElem?_eq_getElem _
            obtain ⟨v0, hv0⟩ : ∃ v0, V[x]'(by omega) = v0 := ⟨_, rfl⟩
            rw [hv0] at hcg
            have hfz := O9.out.frozenAt x
            have HST := Lib.hid (O9.out.stored x (.slice a9 y c9))
            have RW10 : Hid (RowsOwn (w9.setCell ⟨go, x, none⟩ (.slice a9 y c9)) Bs (V.set x (.slice a9 y c9)) (rs.set x zs)) := by
              have h1 := RW9.out.outer O9.out HST.out.2
              have h2 : (w9.setCell ⟨go, x, none⟩ (.slice a9 y c9)).ownsRow Bs 3 1 (.slice a9 y c9) y (zs.map (Value.int .i64)) := F9.out.kept HST.out.2 (other_type F9.out O9.out (by decide))
              have h3 := h1.set (x := x) (a := a9) (c := c9) (zs := zs) (by rw [hrl.out]; exact hxk) (by rw [HZ9.out]; exact h2) (by rw [HZ9.out]; omega)
              rw [HZ9.out] at h3
              exact h3
            have S10 : Hid (Step R w1 (w9.setCell ⟨go, x, none⟩ (.slice a9 y c9))) := S9.out.grown HST.out.2 (fun j e => by cases e; exact .inl (by rw [hBs]; exact hgo))
            have hrl' : (rs.set x zs).length = k := by rw [List.length_set]; exact hrl.out
            have HRL' := Lib.hid hrl'
            clear hv0 hVl hrl'
            go_wp2
            go_ret
            exact ⟨rs.set x zs, some ⟨go, 0, none⟩, co, by rw [HRL'.out]; rfl, by rw [HRL'.out]; exact rows_of HST.out.1 RW10.out HRL'.out (by omega), by rw [HRL'.out]; omega, by rw [HRR.out]; exact B1.out.trans (S10.out.below (Nat.le_refl _) (by omega))⟩
  · go_wp2_with fail
    refine (pick_any R (p3 + 1 + 1) 8 _ R6.out (by omega) (by omega) (by omega)).mono ?_
    rintro e w6 ⟨many, rfl, hmany, hr, hs⟩
    have hm7 : many ≤ 7 := by omega
    have RP := Lib.hid hr
    have SP := Lib.hid (S6.out.trans hs)
    have MM := Lib.hid (owns_step M6.out hs hRB)
    have OO := Lib.hid (owns_step OO6.out hs hRB)
    have RWO : Hid (RowsOwn w6 Bs [] []) := ⟨rfl, fun j hj => by simp at hj⟩
    clear hr hs OO6 M6 R6 S6 hmany hm5
    go_wp2
    go_loopw [6, 8] (fun o i wr => ∃ (k : Nat) (rs : List (List Int)) (V : List Value) (ao : Option Addr) (co p' : Nat), k ≤ many ∧ i = .int .i64 k ∧ o = .slice ao k co ∧ Hid (wr.ownsRow Bs 25 1 (.slice ao k co) k V) ∧ Hid (RowsOwn wr Bs V rs) ∧ Hid (rs.length = k) ∧ Hid (wr.ownsRow Bs 3 1 (.slice (some ⟨gm, 0, none⟩) n c3) n (ms.map (Value.int .i64))) ∧ Hid (Rd wr R p') ∧ p' ≤ (p3 + 1 + 1 + 1) + 3 * k ∧ Hid (Step R w1 wr) ∧ Bs ≤ wr.heap.size) (fun _ i _ => many - (intOf i).toNat)
    case atStart => exact ⟨0, [], [], _, _, (p3 + 1 + 1 + 1), by omega, rfl, rfl, OO, RWO, rfl, MM, RP, by omega, SP, by have := SP.out.size; rw [hBs] at this; exact this⟩
    case round =>
      obtain ⟨k, rs, V, ao, co, p', hkm, rfl, rfl, ho, hro, hrl, hms, hr, hp', hs, hsz⟩ := hrel
      by_cases hlt : k < many
      · have hlit := Lib.hid (World.ownsRow_lit (base := wr.heap.size) (e := 3) (size := 1) wr #[] 0 (Nat.le_refl _) (by unfold maxLen; omega) rfl)
        have hua : Below wr.heap.size wr (wr.alloc (.cells #[] 3)) := (Below.refl _ wr).alloc (Nat.le_refl _) _
        have hcs := Lib.hid (own_cells (owns_under hms.out hua))
        have HLm : Hid ((ms.map (Value.int .i64)).length = n * 1) := by unfold Hid; simp [HMS.out]
        go_wp2_with (at_builtin; refine wpList_append_own _ rfl _ _ 25 rfl wr.heap.size 3 i0 (.int .i64 0) 1 8 Try.underlying25 hi hz0 hz1 hz2 rfl (by decide) _ _ _ rfl hlit.out ⟨gm, 0, none⟩ n _ (ms.map (Value.int .i64)) rfl HLm.out hcs.out (ints_one' _) (by unfold maxLen; omega) (by omega) (by simp) ?_; intro v' w4 hown' hgrow _; obtain ⟨a5, c5, rfl⟩ := owns_slice hown')
        simp only [Nat.zero_add, List.nil_append] at hown' ⊢
        have S4 : Hid (Step R wr w4) := ((Step.refl R wr).alloc _).grown hgrow (fun j ej => .inl (by have := own_at ej; omega))
        have R4 : Hid (Rd w4 R p') := (hr.out.below hua).grown hgrow (fun j ej => by have := own_at ej; have := hr.out.1; omega)
        have F4 := Lib.hid hown'
        clear hown' hgrow hlit hua hcs HLm
        go_wp2_with fail
        refine (pick_any R p' 3 _ R4.out (by omega) (by omega) (by omega)).mono ?_
        rintro e w5 ⟨d, rfl, hd, hr5, hs5⟩
        have hRwr : R < wr.heap.size := by omega
        have R5 := Lib.hid hr5
        have S5 := Lib.hid (S4.out.trans hs5)
        have F5 := Lib.hid (owns_step F4.out hs5 hRwr)
        clear hr5 hs5 R4 S4 F4
        cases hd0 : ((d : Int) == 0)
        · have RR := R5
          have SR := S5
          have FR := F5
          have HZR := HMS
          obtain ⟨zr, hzr⟩ : ∃ zr, ms = zr := ⟨_, rfl⟩
          have FR : Hid (w5.ownsRow wr.heap.size 3 1 (.slice a5 n c5) n (zr.map (Value.int .i64))) := by rw [← hzr]; exact F5
          have HZR : Hid (zr.length = n) := by rw [← hzr]; exact HMS
          clear R5 S5 F5 hzr
          have O7 := Lib.hid (owns_step ho.out SR.out hRB)
          have RW7 : Hid (RowsOwn w5 Bs V rs) := hro.out.step SR.out hRB
          have FR7 := Lib.hid (World.ownsRow.mono (base' := Bs) FR.out hsz)
          have M7 := Lib.hid (owns_step hms.out SR.out hRB)
          have S7 := Lib.hid (hs.out.trans SR.out)
          have hszW : Bs ≤ w5.heap.size := Nat.le_trans hsz SR.out.size
          clear ho hro hs hms hr SR FR
          go_wp2_with (at_builtin; refine wpList_append_own _ rfl _ _ 23 rfl Bs 25 is (.slice none 0 0) 1 24 Try.underlying23 hsi hs0 hs1 hs2 rfl (by decide) _ _ _ rfl (O7.out.alloc _) ⟨w5.heap.size, 0, none⟩ 1 1 [.slice a5 n c5] rfl rfl (cell_one_new _ _ _) (by simp [Value.oneCell']) (by unfold maxLen; omega) (by omega) (by simp; omega) ?_; intro v' w8 hown' hgrow _; obtain ⟨a8, c8, rfl⟩ := owns_slice hown')
          have hrow : ∀ j, (Value.slice ao k co).ownBlock = some j → Bs ≤ j := fun j ej => (O7.out.lt j ej).1
          have R8 : Hid (Rd w8 R (p' + 1)) := (RR.out.below ((Below.refl _ w5).alloc (Nat.le_refl _) _)).grown hgrow (fun j ej => by have := hrow j ej; omega)
          have S8 : Hid (Step R w1 w8) := (S7.out.alloc _).grown hgrow (fun j ej => .inl (by rw [hBs]; exact hrow j ej))
          have hua : Below w5.heap.size w5 (w5.alloc (.cells #[.slice a5 n c5] 25)) := (Below.refl _ w5).alloc (Nat.le_refl _) _
          have RW8 : Hid (RowsOwn w8 Bs (V ++ [.slice a5 n c5]) (rs ++ [zr])) := by
            have h1 := (RW7.out.under hua).outer (O7.out.alloc _) hgrow
            have h2 : w8.ownsRow Bs 3 1 (.slice a5 n c5) n (zr.map (Value.int .i64)) := (owns_under FR7.out hua).kept hgrow (other_type (owns_under FR7.out hua) (O7.out.alloc _) (by decide))
            have h3 := h1.snoc (a := a5) (c := c5) (zs := zr) (by rw [HZR.out]; exact h2) (by rw [HZR.out]; omega)
            rw [HZR.out] at h3
            exact h3
          have M8 : Hid (w8.ownsRow Bs 3 1 (.slice (some ⟨gm, 0, none⟩) n c3) n (ms.map (Value.int .i64))) := (owns_under M7.out hua).kept hgrow (other_type (owns_under M7.out hua) (O7.out.alloc _) (by decide))
          have HL8 : Hid ((rs ++ [zr]).length = k + 1) := by unfold Hid; simp [hrl.out]
          have O8 : Hid (w8.ownsRow Bs 25 1 (.slice a8 (k + 1) c8) (k + 1) (V ++ [.slice a5 n c5])) := hown'
          have hsz8 : Bs ≤ w8.heap.size := by have := hgrow.size; simp at this; omega
          clear hown' hgrow hrow hua RW7 FR7 M7 S7 O7 RR HZR
          go_wp2
          go_roundw
          case rel => exact ⟨k + 1, rs ++ [zr], V ++ [.slice a5 n c5], a8, c8, (p' + 1), by omega, by go_num, rfl, O8, RW8, HL8, M8, R8, by omega, S8, hsz8⟩
          case measure => simp [intOf]; omega
        · go_wp2_with fail
          refine (pick_any R (p' + 1) (n : Int) _ R5.out (by omega) (by omega) (by omega)).mono ?_
          rintro e w6 ⟨x, rfl, hx, hr6, hs6⟩
          have R6 := Lib.hid hr6
          have S6 := Lib.hid (S5.out.trans hs6)
          have F6 := Lib.hid (owns_step F5.out hs6 hRwr)
          clear hr6 hs6 R5 S5 F5
          go_wp2_with fail
          refine (pick_any R (p' + 1 + 1) 4 _ R6.out (by omega) (by omega) (by omega)).mono ?_
          rintro e w7 ⟨y, rfl, hy, hr7, hs7⟩
          have R7' := Lib.hid hr7
          have S7' := Lib.hid (S6.out.trans hs7)
          have F7' := Lib.hid (owns_step F6.out hs7 hRwr)
          clear hr7 hs7 R6 S6 F6
          obtain ⟨g5, rfl, hg5⟩ : ∃ g, a5 = some ⟨g, 0, none⟩ ∧ wr.heap.size ≤ g := by
            rcases F7'.out.2 with ⟨_, e0⟩ | ⟨g, c, _, e, hb, _⟩
            · omega
            · injection e with e1 _ _; exact ⟨g, e1, hb⟩
          have hxn : x < n := by omega
          have hcg : w7.cell? ⟨g5, x, none⟩ = some (.int .i64 (ms[x]?.getD 0)) := by
            rw [F7'.out.cellAt x (by omega)]
            simp [show x < ms.length from by rw [HMS.out]; exact hxn]
          have hfz := F7'.out.frozenAt x
          have HST := Lib.hid (F7'.out.stored x (.int .i64 (y : Int)))
          have RR : Hid (Rd (w7.setCell ⟨g5, x, none⟩ (.int .i64 (y : Int))) R (p' + 1 + 1 + 1)) := R7'.out.grown HST.out.2 (fun j e => by cases e; omega)
          have SR : Hid (Step R wr (w7.setCell ⟨g5, x, none⟩ (.int .i64 (y : Int)))) := S7'.out.grown HST.out.2 (fun j e => by cases e; exact .inl hg5)
          obtain ⟨zr, hzr⟩ : ∃ zr, ms.set x (y : Int) = zr := ⟨_, rfl⟩
          have FR : Hid ((w7.setCell ⟨g5, x, none⟩ (.int .i64 (y : Int))).ownsRow wr.heap.size 3 1 (.slice (some ⟨g5, 0, none⟩) n c5) n (zr.map (Value.int .i64))) := by rw [← hzr, ← map_set_int]; exact HST.out.1
          have HZR : Hid (zr.length = n) := by rw [← hzr]; unfold Hid; rw [List.length_set]; exact HMS.out
          clear HST R7' S7' F7' hzr
          obtain ⟨wS, hwS⟩ : ∃ wS, w7.setCell ⟨g5, x, none⟩ (.int .i64 (y : Int)) = wS := ⟨_, rfl⟩
          rw [hwS] at RR SR FR
          have O7 := Lib.hid (owns_step ho.out SR.out hRB)
          have RW7 : Hid (RowsOwn wS Bs V rs) := hro.out.step SR.out hRB
          have FR7 := Lib.hid (World.ownsRow.mono (base' := Bs) FR.out hsz)
          have M7 := Lib.hid (owns_step hms.out SR.out hRB)
          have S7 := Lib.hid (hs.out.trans SR.out)
          have hszW : Bs ≤ wS.heap.size := Nat.le_trans hsz SR.out.size
          clear ho hro hs hms hr SR FR
          go_wp2_with (at_builtin; refine wpList_append_own _ rfl _ _ 23 rfl Bs 25 is (.slice none 0 0) 1 24 Try.underlying23 hsi hs0 hs1 hs2 rfl (by decide) _ _ _ rfl (O7.out.alloc _) ⟨wS.heap.size, 0, none⟩ 1 1 [.slice (some ⟨g5, 0, none⟩) n c5] rfl rfl (cell_one_new _ _ _) (by simp [Value.oneCell']) (by unfold maxLen; omega) (by omega) (by simp; omega) ?_; intro v' w8 hown' hgrow _; obtain ⟨a8, c8, rfl⟩ := owns_slice hown')
          have hrow : ∀ j, (Value.slice ao k co).ownBlock = some j → Bs ≤ j := fun j ej => (O7.out.lt j ej).1
          have R8 : Hid (Rd w8 R (p' + 1 + 1 + 1)) := (RR.out.below ((Below.refl _ wS).alloc (Nat.le_refl _) _)).grown hgrow (fun j ej => by have := hrow j ej; omega)
          have S8 : Hid (Step R w1 w8) := (S7.out.alloc _).grown hgrow (fun j ej => .inl (by rw [hBs]; exact hrow j ej))
          have hua : Below wS.heap.size wS (wS.alloc (.cells #[.slice (some ⟨g5, 0, none⟩) n c5] 25)) := (Below.refl _ wS).alloc (Nat.le_refl _) _
          have RW8 : Hid (RowsOwn w8 Bs (V ++ [.slice (some ⟨g5, 0, none⟩) n c5]) (rs ++ [zr])) := by
            have h1 := (RW7.out.under hua).outer (O7.out.alloc _) hgrow
            have h2 : w8.ownsRow Bs 3 1 (.slice (some ⟨g5, 0, none⟩) n c5) n (zr.map (Value.int .i64)) := (owns_under FR7.out hua).kept hgrow (other_type (owns_under FR7.out hua) (O7.out.alloc _) (by decide))
            have h3 := h1.snoc (a := (some ⟨g5, 0, none⟩)) (c := c5) (zs := zr) (by rw [HZR.out]; exact h2) (by rw [HZR.out]; omega)
            rw [HZR.out] at h3
            exact h3
          have M8 : Hid (w8.ownsRow Bs 3 1 (.slice (some ⟨gm, 0, none⟩) n c3) n (ms.map (Value.int .i64))) := (owns_under M7.out hua).kept hgrow (other_type (owns_under M7.out hua) (O7.out.alloc _) (by decide))
          have HL8 : Hid ((rs ++ [zr]).length = k + 1) := by unfold Hid; simp [hrl.out]
          have O8 : Hid (w8.ownsRow Bs 25 1 (.slice a8 (k + 1) c8) (k + 1) (V ++ [.slice (some ⟨g5, 0, none⟩) n c5])) := hown'
          have hsz8 : Bs ≤ w8.heap.size := by have := hgrow.size; simp at this; omega
          clear hown' hgrow hrow hua RW7 FR7 M7 S7 O7 RR HZR
          go_wp2
          go_roundw
          case rel => exact ⟨k + 1, rs ++ [zr], V ++ [.slice (some ⟨g5, 0, none⟩) n c5], a8, c8, (p' + 1 + 1 + 1), by omega, by go_num, rfl, O8, RW8, HL8, M8, R8, by omega, S8, hsz8⟩
          case measure => simp [intOf]; omega
      · obtain rfl : k = many := by omega
        rcases Nat.eq_zero_or_pos k with hz | hz
        · have hz1 : (k : Int) ≤ 0 := by omega
          subst hz
          go_wp2
          go_ret
          exact ⟨rs, ao, co, by rw [hrl.out]; rfl, by rw [hrl.out]; exact rows_of ho.out hro.out hrl.out (by omega), by rw [hrl.out]; omega, by rw [HRR.out]; exact B1.out.trans (hs.out.below (Nat.le_refl _) (by omega))⟩
        · go_wp2_with fail
          refine (pick_any R p' 16 _ hr.out (by omega) (by omega) (by omega)).mono ?_
          rintro e w6 ⟨d, rfl, hd, hr6, hs6⟩
          have R6 := Lib.hid hr6
          have O6 := Lib.hid (owns_step ho.out hs6 hRB)
          have RW6 := Lib.hid (hro.out.step hs6 hRB)
          have S6 := Lib.hid (hs.out.trans hs6)
          clear hr6 hs6 hr ho hro hs hms
          cases hd0 : ((d : Int) == 0)
          · go_wp2
            go_ret
            exact ⟨rs, ao, co, by rw [hrl.out]; rfl, by rw [hrl.out]; exact rows_of O6.out RW6.out hrl.out (by omega), by rw [hrl.out]; omega, by rw [HRR.out]; exact B1.out.trans (S6.out.below (Nat.le_refl _) (by omega))⟩
          · go_wp2_with fail
            refine (pick_any R (p' + 1) (k : Int) _ R6.out (by omega) (by omega) (by omega)).mono ?_
            rintro e w7 ⟨x, rfl, hx, hr7, hs7⟩
            have hxk : x < k := by omega
            have R7 := Lib.hid hr7
            have O7 := Lib.hid (owns_step O6.out hs7 hRB)
            have RW7 := Lib.hid (RW6.out.step hs7 hRB)
            have S7 := Lib.hid (S6.out.trans hs7)
            clear hr7 hs7 R6 O6 RW6 S6
            go_wp2_with fail
            refine (pick_any R (p' + 1 + 1) 6 _ R7.out (by omega) (by omega) (by omega)).mono ?_
            rintro e w8 ⟨y, rfl, hy, hr8, hs8⟩
            have R8 := Lib.hid hr8
            have O8 := Lib.hid (owns_step O7.out hs8 hRB)
            have RW8 := Lib.hid (RW7.out.step hs8 hRB)
            have S8 := Lib.hid (S7.out.trans hs8)
            have hsz8 : Bs ≤ w8.heap.size := by have := S8.out.size; omega
            clear hr8 hs8 R7 O7 RW7 S7
            go_wp2_with fail
            refine (l91Marks_any R (p' + 1 + 1 + 1) y _ R8.out (by omega) (by omega)).mono ?_
            rintro e w9 ⟨zs, a9, c9, p9', rfl, ho9, hz9, hr9, hp9, hs9⟩
            have F9 := Lib.hid (World.ownsRow.mono (base' := Bs) ho9 hsz8)
            have O9 := Lib.hid (owns_step O8.out hs9 hRB)
            have RW9 := Lib.hid (RW8.out.step hs9 hRB)
            have S9 := Lib.hid (S8.out.trans hs9)
            have HZ9 := Lib.hid hz9
            clear hr9 hs9 R8 O8 RW8 S8 ho9 hz9
            obtain ⟨go, rfl, hgo⟩ : ∃ g, ao = some ⟨g, 0, none⟩ ∧ Bs ≤ g := by
              rcases O9.out.2 with ⟨_, e0⟩ | ⟨g, c, _, e, hb, _⟩
              · omega
              · injection e with e1 _ _; exact ⟨g, e1, hb⟩
            have hVl : V.length = k := by have := O9.out.1; omega
            have hcg : w9.cell? ⟨go, x, none⟩ = some (V[x]'(by omega)) := by
              rw [O9.out.cellAt x (by omega)]
              exact List.getElem?_eq_getElem _
            obtain ⟨v0, hv0⟩ : ∃ v0, V[x]'(by omega) = v0 := ⟨_, rfl⟩
            rw [hv0] at hcg
            have hfz := O9.out.frozenAt x
            have HST := Lib.hid (O9.out.stored x (.slice a9 y c9))
            have RW10 : Hid (RowsOwn (w9.setCell ⟨go, x, none⟩ (.slice a9 y c9)) Bs (V.set x (.slice a9 y c9)) (rs.set x zs)) := by
              have h1 := RW9.out.outer O9.out HST.out.2
              have h2 : (w9.setCell ⟨go, x, none⟩ (.slice a9 y c9)).ownsRow Bs 3 1 (.slice a9 y c9) y (zs.map (Value.int .i64)) := F9.out.kept HST.out.2 (other_type F9.out O9.out (by decide))
              have h3 := h1.set (x := x) (a := a9) (c := c9) (zs := zs) (by rw [hrl.out]; exact hxk) (by rw [HZ9.out]; exact h2) (by rw [HZ9.out]; omega)
              rw [HZ9.out] at h3
              exact h3
            have S10 : Hid (Step R w1 (w9.setCell ⟨go, x, none⟩ (.slice a9 y c9))) := S9.out.grown HST.out.2 (fun j e => by cases e; exact .inl (by rw [hBs]; exact hgo))
            have hrl' : (rs.set x zs).length = k := by rw [List.length_set]; exact hrl.out
            have HRL' := Lib.hid hrl'
            clear hv0 hVl hrl'
            go_wp2
            go_ret
            exact ⟨rs.set x zs, some ⟨go, 0, none⟩, co, by rw [HRL'.out]; rfl, by rw [HRL'.out]; exact rows_of HST.out.1 RW10.out HRL'.out (by omega), by rw [HRL'.out]; omega, by rw [HRR.out]; exact B1.out.trans (S10.out.below (Nat.le_refl _) (by omega))⟩

end Go.Proofs.Ytpgnneaaemfkoaa
