/-
  laws.FnPairCounts returns true for every code. No condition.
-/
import Derived.Test.YtaaamidkfhabnaaGrp4
import Derived.Test.YtaaamidkfhabnaaGrp13
import Derived.Test.YtaaamidkfhabnaaPthS
import Derived.Test.YtaaamidkfhabnaaGrp14
import Derived.Test.YtaaamidkfhabnaaGrp15
import Derived.Test.YtaaamidkfhabnaaGrp3
import Derived.Test.YtaaamidkfhabnaaGrp12
namespace Go.Proofs.Ytaaamidkfhabnaa.fnPairCounts
open Go.RowKit
set_option linter.unusedVariables false


set_option maxRecDepth 100000 in
set_option maxHeartbeats 2000000 in
/-- The law's walk: it returns true, and writes nothing that was there. -/
theorem walk (a0 : Option Addr) (len0 cap0 : Nat) (z0 : List Int) (w : World) (w0 : IsRow .u8 w a0 len0 cap0 z0) :
    Calls Try.prog 3 #[.slice a0 len0 cap0] w fun e w' => e = .returned (.bool true) ∧ Below w.heap.size w w' := by
  by_cases hl : len0 ≤ 1048576
  · skip
    have hcap := w0.cap
    have HB := Lib.hid w0.bytes; clear w0
    go_enter Try.func3, Try.ntmps3
    go_wp2_with fail
    refine (drawXCounts_any a0 len0 cap0 _ _ HB.out hcap (by omega)).mono ?_
    rintro e w1 ⟨xs, g, c, n, rfl, hp, hn6, hb⟩
    have P := Lib.hid hp
    have B := Lib.hid hb
    have HSM := Lib.hid hp.2.1
    have hl13 := hp.2.2.2
    clear hb HB hp
    obtain ⟨v, hv⟩ : ∃ v, fitsB xs (n : Int) = v := ⟨_, rfl⟩
    have HV := Lib.hid hv
    go_wp2_with fail
    refine (implPairCounts_as _ _ _ xs (n : Int) v _ P.out.piles HSM.out hv).mono ?_
    clear hv
    rintro e w2 (⟨rfl, rfl, hb⟩ | ⟨rfl, gt, G, rfl, hT, -, hb⟩)
    · skip
      have P := Lib.hid (P.out.below hb)
      have B := Lib.hid (B.out.trans (hb.mono B.out.size))
      clear hb
      go_wp2_with fail
      refine (specPairCounts_as _ _ _ xs (n : Int) false _ P.out.piles HSM.out HV.out).mono ?_
      rintro e w3 ⟨aw, cw, _, _, rfl, -, hb⟩
      have P := Lib.hid (P.out.below hb)
      have B := Lib.hid (B.out.trans (hb.mono B.out.size))
      clear hb
      have IA : Hid (IsRows w3 none 0 0 []) := IsRows.empty _ _ _
      have IB : Hid (IsRows w3 aw 0 cw []) := IsRows.empty _ _ _
      simp only [Bool.false_eq_true, if_false]
      go_wp2_with fail
      refine (sameTable_same _ _ _ _ _ _ _ IA.out IB.out).mono ?_
      rintro e w4 ⟨rfl, hd⟩
      have hb := hd.below w3.heap.size
      have P := Lib.hid (P.out.below hb)
      have B := Lib.hid (B.out.trans (hb.mono B.out.size))
      clear hb hd
      have IA : Hid (IsRows w4 none 0 0 []) := IsRows.empty _ _ _
      have IB : Hid (IsRows w4 aw 0 cw []) := IsRows.empty _ _ _
      go_wp2_with fail
      refine (sameTable_same _ _ _ _ _ _ _ IA.out IB.out).mono ?_
      rintro e w5 ⟨rfl, hd⟩
      have hb := hd.below w4.heap.size
      have P := Lib.hid (P.out.below hb)
      have B := Lib.hid (B.out.trans (hb.mono B.out.size))
      clear hb hd
      go_wp2
      go_ret
      exact ⟨rfl, B.out⟩
    · skip
      obtain ⟨hpv, hn1i, hn5i, -⟩ := fits_parts HV.out
      have hn1 : 1 ≤ n := by omega
      have hn5 : n ≤ 5 := by omega
      have HP := Lib.hid hpv
      clear hpv hn1i hn5i
      rw [Int.toNat_natCast] at hT ⊢
      have P := Lib.hid (P.out.below hb)
      have T := Lib.hid hT
      have B := Lib.hid (B.out.trans (hb.mono B.out.size))
      clear hb hT
      go_wp2_with fail
      refine (specPairCounts_as _ _ _ xs (n : Int) true _ P.out.piles HSM.out HV.out).mono ?_
      rintro e w3 ⟨aw, cw, G2, C2, rfl, hT2, hb⟩
      have P := Lib.hid (P.out.below hb)
      have T := Lib.hid (T.out.under hb)
      have T2 := Lib.hid (hT2 rfl)
      have B := Lib.hid (B.out.trans (hb.mono B.out.size))
      clear hb hT2
      rw [Int.toNat_natCast] at T2
      simp only [if_true]
      have IA := Lib.hid (T.out.isRows (by omega) (fun i j _ _ => rfl))
      have IB := Lib.hid (T2.out.isRows (by omega) (fun i j _ _ => rfl))
      clear T2
      go_wp2_with fail
      refine (sameTable_same _ _ _ _ _ _ _ IA.out IB.out).mono ?_
      rintro e w4 ⟨rfl, hd⟩
      have hb := hd.below w3.heap.size
      have P := Lib.hid (P.out.below hb)
      have T := Lib.hid (T.out.under hb)
      have B := Lib.hid (B.out.trans (hb.mono B.out.size))
      clear hb hd IA IB
      obtain ⟨s, hs⟩ : ∃ s, totalL xs = s := ⟨_, rfl⟩
      have HS := Lib.hid hs
      clear hs
      have HLOW : Hid (∀ x y, 0 ≤ pairF xs x y) := fun x y => pairF_low (pilesB_pos HP.out).2.1 x y
      have HSUM : Hid (∀ x y, pairF xs x y + pairF xs y x ≤ s) := by
        intro x y
        have h1 := pairF_two (pilesB_pos HP.out).2.1 x y
        have e : totalL xs = sumL xs := by unfold totalL; rw [HP.out]; rfl
        rw [HS.out] at e
        omega
      have HMOST : Hid (∀ x y, pairF xs x y ≤ 1188) := fun x y => by have := (pairF_most HP.out xs.length x y).2; rwa [List.take_length] at this
      go_wp2
      go_loopw [9, 10] (fun xv _ wr => ∃ x : Nat, x ≤ n ∧ xv = .int .i64 (x : Int) ∧ Below w4.heap.size w4 wr) (fun xv _ _ => n - (intOf xv).toNat)
      case atStart => exact ⟨0, Nat.zero_le _, rfl, Below.refl _ _⟩
      case round =>
        obtain ⟨x, hx, rfl, hbx⟩ := hrel
        by_cases hlt : x < n
        · go_wp2
          go_loopw [10] (fun yv wr => ∃ y : Nat, y ≤ n ∧ yv = .int .i64 (y : Int) ∧ Below w4.heap.size w4 wr) (fun yv _ => n - (intOf yv).toNat)
          case atStart => exact ⟨0, Nat.zero_le _, rfl, hbx⟩
          case round =>
            rename World => wy
            obtain ⟨y, hy, rfl, hby⟩ := hrel
            by_cases hlt2 : y < n
            · skip
              have TT := Lib.hid (T.out.under hby)
              have PP := Lib.hid (P.out.below hby)
              obtain ⟨gt', e1, _, hgtl, _⟩ := TT.out.head (by omega)
              injection e1 with e1
              injection e1 with e1
              subst e1
              have hxi : (x : Int) < (n : Int) := by omega
              have hyi : (y : Int) < (n : Int) := by omega
              by_cases hxy : x = y
              · subst hxy
                have rTT0 := TT.out.row_cell hlt (Nat.le_refl _)
                have kTTp := TT.out.cell hlt hlt
                obtain ⟨gTT0, hgTT0⟩ : ∃ gTT0, G x = gTT0 := ⟨_, rfl⟩
                rw [hgTT0] at rTT0 kTTp
                clear hgTT0
                obtain ⟨p, hp⟩ : ∃ p, pairF xs x x = p := ⟨_, rfl⟩
                simp only [hp] at kTTp
                have he : ((x : Int) == (x : Int)) = true := by simp
                have hp1 : p = 0 := by rw [← hp]; exact pairF_self xs x
                subst hp1
                have hs0 : (0 : Int) ≤ s := by have := HSUM.out x x; omega
                have hpq : decide (s < 0) = false := decide_eq_false (by omega)
                have hgx := (World.block_lt_of_cell? wy _ kTTp)
                have u0 : ∀ u : Beh wy, u.w.cell? ⟨gt, x, none⟩ = _ := Beh.cell rTT0 hgtl
                have u2 : ∀ u : Beh wy, u.w.cell? ⟨gTT0, x, none⟩ = _ := Beh.cell kTTp hgx
                clear hp
                go_wp2_with fail
                refine wp_region_below (by kernel_rfl) (by kernel_rfl) ?_
                repeat (go_big_quiet_step ((go_at_call 19; exact Calls.beh (implTotal_as _ _ _ xs s _ (PP.out.piles.below (Beh.below _)) HSM.out HS.out))))
                refine wpQuiet_nil ?_
                rintro _ ⟨⟨w9, hb9⟩, rfl⟩
                have hb8 := hby.trans (hb9.mono hby.size)
                clear u0 u2
                go_wp2
                go_roundw
                case rel => exact ⟨x + 1, by omega, by go_num, hb8⟩
                case measure => simp [intOf]; omega
              · have he : ((x : Int) == (y : Int)) = false := beq_eq_false_iff_ne.2 (by omega)
                have rTT0 := TT.out.row_cell hlt (Nat.le_refl _)
                have rTT1 := TT.out.row_cell hlt2 (Nat.le_refl _)
                have kTTp := TT.out.cell hlt hlt2
                have kTTq := TT.out.cell hlt2 hlt
                obtain ⟨gTT0, hgTT0⟩ : ∃ gTT0, G x = gTT0 := ⟨_, rfl⟩
                rw [hgTT0] at rTT0 kTTp
                clear hgTT0
                obtain ⟨gTT1, hgTT1⟩ : ∃ gTT1, G y = gTT1 := ⟨_, rfl⟩
                rw [hgTT1] at rTT1 kTTq
                clear hgTT1
                obtain ⟨p, hp⟩ : ∃ p, pairF xs x y = p := ⟨_, rfl⟩
                simp only [hp] at kTTp
                obtain ⟨q, hq⟩ : ∃ q, pairF xs y x = q := ⟨_, rfl⟩
                simp only [hq] at kTTq
                have hp0 : decide (p < 0) = false := decide_eq_false (by rw [← hp]; have := HLOW.out x y; omega)
                have hpq : decide (s < p + q) = false := decide_eq_false (by rw [← hp, ← hq]; have := HSUM.out x y; omega)
                have hpb : 0 ≤ p ∧ p ≤ 1188 := by rw [← hp]; exact ⟨HLOW.out x y, HMOST.out x y⟩
                have hqb : 0 ≤ q ∧ q ≤ 1188 := by rw [← hq]; exact ⟨HLOW.out y x, HMOST.out y x⟩
                have hgx := (World.block_lt_of_cell? wy _ kTTp)
                have hgy := (World.block_lt_of_cell? wy _ kTTq)
                have u0 : ∀ u : Beh wy, u.w.cell? ⟨gt, x, none⟩ = _ := Beh.cell rTT0 hgtl
                have u1 : ∀ u : Beh wy, u.w.cell? ⟨gt, y, none⟩ = _ := Beh.cell rTT1 hgtl
                have u2 : ∀ u : Beh wy, u.w.cell? ⟨gTT0, y, none⟩ = _ := Beh.cell kTTp hgx
                have u3 : ∀ u : Beh wy, u.w.cell? ⟨gTT1, x, none⟩ = _ := Beh.cell kTTq hgy
                clear hp hq
                go_wp2_with fail
                refine wp_region_below (by kernel_rfl) (by kernel_rfl) ?_
                repeat (go_big_quiet_step ((go_at_call 19; exact Calls.beh (implTotal_as _ _ _ xs s _ (PP.out.piles.below (Beh.below _)) HSM.out HS.out))))
                refine wpQuiet_nil ?_
                rintro _ ⟨⟨w9, hb9⟩, rfl⟩
                have hb8 := hby.trans (hb9.mono hby.size)
                clear u0 u2 u1 u3
                go_wp2
                go_roundw
                case rel => exact ⟨y + 1, by omega, by go_num, hb8⟩
                case measure => simp [intOf]; omega
            · obtain rfl : y = n := by omega
              go_wp2
              go_roundw
              case rel => exact ⟨x + 1, by omega, by go_num, hby⟩
              case measure => simp [intOf]; omega
        · obtain rfl : x = n := by omega
          go_wp2
          go_ret
          exact ⟨rfl, B.out.trans (hbx.mono B.out.size)⟩
  · clear w0
    go_enter Try.func3, Try.ntmps3
    go_wp2
    go_ret
    exact ⟨rfl, Below.refl _ _⟩

end Go.Proofs.Ytaaamidkfhabnaa.fnPairCounts
