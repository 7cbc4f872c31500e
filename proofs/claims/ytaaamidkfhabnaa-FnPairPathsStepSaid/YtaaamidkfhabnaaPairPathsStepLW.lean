/-
  laws.FnPairPathsStep returns true for every code. No condition.
-/
import Derived.Test.YtaaamidkfhabnaaGrp4
import Derived.Test.YtaaamidkfhabnaaGrp13
import Derived.Test.YtaaamidkfhabnaaPthS
import Derived.Test.YtaaamidkfhabnaaGrp15
import Derived.Test.YtaaamidkfhabnaaGrp3
namespace Go.Proofs.Ytaaamidkfhabnaa.fnPairPathsStep
open Go.RowKit
set_option linter.unusedVariables false

/-- What is told of the first test. -/
def SomeInv (M O : Nat → Nat → Int) (x y : Nat) (w0 : World) (sv : Value) (wx : World) : Prop := ∃ s, sv = .bool s ∧ (s = true ∨ (O x y == 0 || (decide (M y x < M x y) && M x y == O x y)) = false) ∧ Dr w0 wx
set_option maxRecDepth 100000 in
set_option maxHeartbeats 2000000 in
/-- The law's walk: it returns true, and writes nothing that was there. -/
theorem walk (a0 : Option Addr) (len0 cap0 : Nat) (z0 : List Int) (w : World) (w0 : IsRow .u8 w a0 len0 cap0 z0) :
    Calls Try.prog 10 #[.slice a0 len0 cap0] w fun e w' => e = .returned (.bool true) ∧ Below w.heap.size w w' := by
  by_cases hl : len0 ≤ 1048576
  · skip
    have hcap := w0.cap
    have HB := Lib.hid w0.bytes; clear w0
    go_enter Try.func10, Try.ntmps10
    go_wp2_with fail
    refine (drawXPaths_any a0 len0 cap0 _ _ HB.out hcap (by omega)).mono ?_
    rintro e w1 ⟨xs, g, c, n, rfl, hp, hn6, hb⟩
    have P := Lib.hid hp
    have B := Lib.hid hb
    have HSM := Lib.hid hp.2.1
    have hl13 := hp.2.2.2
    clear hb HB hp
    obtain ⟨v, hv⟩ : ∃ v, fitsB xs (n : Int) = v := ⟨_, rfl⟩
    have HV := Lib.hid hv
    go_wp2_with fail
    refine (implPairPaths_as _ _ _ xs (n : Int) v _ P.out.piles HSM.out hv).mono ?_
    clear hv
    rintro e w2 (⟨rfl, rfl, hb⟩ | ⟨rfl, gt, G, rfl, hT, -, hb⟩)
    · skip
      have P := Lib.hid (P.out.below hb)
      have B := Lib.hid (B.out.trans (hb.mono B.out.size))
      clear hb
      go_wp2_with fail
      refine (specPairPaths_as _ _ _ xs (n : Int) false _ P.out.piles HSM.out HV.out).mono ?_
      rintro e w3 ⟨aw, cw, _, _, rfl, -, hb⟩
      have P := Lib.hid (P.out.below hb)
      have B := Lib.hid (B.out.trans (hb.mono B.out.size))
      clear hb
      have IA : Hid (IsRows w3 none 0 0 []) := IsRows.empty _ _ _
      have IB : Hid (IsRows w3 aw 0 cw []) := IsRows.empty _ _ _
      simp only [Bool.false_eq_true, if_false]
      go_wp2_with fail
      refine (sameTable_same _ _ _ _ _ _ _ IA.out IB.out).mono ?_
      rintro e w4 ⟨rfl, hd⟩
      have hb := hd.below w3.heap.size
      have P := Lib.hid (P.out.below hb)
      have B := Lib.hid (B.out.trans (hb.mono B.out.size))
      clear hb hd
      have IA : Hid (IsRows w4 none 0 0 []) := IsRows.empty _ _ _
      have IB : Hid (IsRows w4 aw 0 cw []) := IsRows.empty _ _ _
      go_wp2_with fail
      refine (sameTable_same _ _ _ _ _ _ _ IA.out IB.out).mono ?_
      rintro e w5 ⟨rfl, hd⟩
      have hb := hd.below w4.heap.size
      have P := Lib.hid (P.out.below hb)
      have B := Lib.hid (B.out.trans (hb.mono B.out.size))
      clear hb hd
      go_wp2
      go_ret
      exact ⟨rfl, B.out⟩
    · skip
      obtain ⟨hpv, hn1i, hn5i, -⟩ := fits_parts HV.out
      have hn1 : 1 ≤ n := by omega
      have hn5 : n ≤ 5 := by omega
      have HP := Lib.hid hpv
      clear hpv hn1i hn5i
      rw [Int.toNat_natCast] at hT ⊢
      have P := Lib.hid (P.out.below hb)
      have T := Lib.hid hT
      have B := Lib.hid (B.out.trans (hb.mono B.out.size))
      clear hb hT
      go_wp2_with fail
      refine (specPairPaths_as _ _ _ xs (n : Int) true _ P.out.piles HSM.out HV.out).mono ?_
      rintro e w3 ⟨aw, cw, G2, C2, rfl, hT2, hb⟩
      have P := Lib.hid (P.out.below hb)
      have T := Lib.hid (T.out.under hb)
      have T2 := Lib.hid (hT2 rfl)
      have B := Lib.hid (B.out.trans (hb.mono B.out.size))
      clear hb hT2
      rw [Int.toNat_natCast] at T2
      simp only [if_true]
      have IA := Lib.hid (T.out.isRows (by omega) (fun i j _ _ => rfl))
      have IB := Lib.hid (T2.out.isRows (by omega) (fun i j _ _ => rfl))
      clear T2
      go_wp2_with fail
      refine (sameTable_same _ _ _ _ _ _ _ IA.out IB.out).mono ?_
      rintro e w4 ⟨rfl, hd⟩
      have hb := hd.below w3.heap.size
      have P := Lib.hid (P.out.below hb)
      have T := Lib.hid (T.out.under hb)
      have B := Lib.hid (B.out.trans (hb.mono B.out.size))
      clear hb hd IA IB
      obtain ⟨O, hO⟩ : ∃ O, pathL (pairF xs) n = O := ⟨_, rfl⟩
      have HO := Lib.hid hO
      rw [hO] at T
      clear hO
      go_wp2_with fail
      refine (implPairCounts_as _ _ _ xs (n : Int) true _ P.out.piles HSM.out HV.out).mono ?_
      rintro e w5 (⟨h, _⟩ | ⟨-, gm, GM, rfl, hT, -, hb⟩)
      · cases h
      rw [Int.toNat_natCast] at hT ⊢
      have P := Lib.hid (P.out.below hb)
      have T := Lib.hid (T.out.under hb)
      have TM := Lib.hid hT
      have B := Lib.hid (B.out.trans (hb.mono B.out.size))
      clear hb hT
      have hne : ((n : Int) != (n : Int)) = false := by simp
      have HLOW : Hid (∀ x y, 0 ≤ pairF xs x y) := fun x y => pairF_low (pilesB_pos HP.out).2.1 x y
      go_wp2
      go_loopw [11, 12, 13, 14] (fun xv _ _ _ wr => ∃ x : Nat, x ≤ n ∧ xv = .int .i64 (x : Int) ∧ Dr w5 wr) (fun xv _ _ _ _ => n - (intOf xv).toNat)
      case atStart => exact ⟨0, Nat.zero_le _, rfl, Dr.refl _⟩
      case round =>
        obtain ⟨x, hx, rfl, hbx⟩ := hrel
        by_cases hlt : x < n
        · go_wp2
          go_loopw [12, 13, 14] (fun yv _ _ wr => ∃ y : Nat, y ≤ n ∧ yv = .int .i64 (y : Int) ∧ Dr w5 wr) (fun yv _ _ _ => n - (intOf yv).toNat)
          case atStart => exact ⟨0, Nat.zero_le _, rfl, hbx⟩
          case round =>
            obtain ⟨y, hy, rfl, hby⟩ := hrel
            by_cases hlt2 : y < n
            · have hxi : (x : Int) < (n : Int) := by omega
              have hyi : (y : Int) < (n : Int) := by omega
              have HEND : Hid ((O x y == 0 || (decide (pairF xs y x < pairF xs x y) && pairF xs x y == O x y)) = false → allTo (fun k => (decide (k = x) || (decide (k = y) || (!decide (pairF xs k x < pairF xs x k) || (!decide (O x y ≤ pairF xs x k) || !decide (O x y ≤ O k y)))))) n = true → False) := by
                intro h1 h2
                have e : pathTo (pairF xs) n = O := HO.out
                rw [allTo_iff] at h2
                simp only [Bool.or_eq_false_iff, Bool.and_eq_false_imp, beq_eq_false_iff_ne, decide_eq_true_eq] at h1
                by_cases hxy : x = y
                · subst hxy
                  have := path_diag (pairF xs) x n
                  rw [e] at this
                  exact h1.1 this
                · rcases path_first HLOW.out (n := n) n (Nat.le_refl _) x y hxy with a | ⟨a, b⟩ | ⟨j, k1, k2, k3, k4, k5, k6⟩
                  · rw [e] at a; exact h1.1 a
                  · rw [e] at b; exact h1.2 a b
                  · rw [e] at k5 k6
                    have := h2 j k1
                    simp [k2, k3, k4, k5, k6] at this
              have U := Lib.hid (TM.out.under (hby.below _))
              have V := Lib.hid (T.out.under (hby.below _))
              go_upto_region 17 with fail
              go_cut [13] from 86 to 127 (fun sv wx => SomeInv (pairF xs) O x y w5 sv wx)
              case first =>
                have rV0 := V.out.row_cell hlt (Nat.le_refl _)
                have kVo := V.out.cell hlt hlt2
                obtain ⟨gV0, hgV0⟩ : ∃ gV0, G x = gV0 := ⟨_, rfl⟩
                rw [hgV0] at rV0 kVo
                clear hgV0
                obtain ⟨o, ho⟩ : ∃ o, O x y = o := ⟨_, rfl⟩
                simp only [ho] at kVo
                by_cases h0 : o = 0
                · have hz : (o == 0) = true := by rw [h0]; rfl
                  clear h0 ho
                  go_wp2_with fail
                  go_quiet (fail)
                  go_wp2_with fail
                  go_meet
                  exact ⟨true, rfl, .inl rfl, hby.drewN _⟩
                · have hz : (o == 0) = false := beq_eq_false_iff_ne.2 h0
                  have rU0 := U.out.row_cell hlt (Nat.le_refl _)
                  have rU1 := U.out.row_cell hlt2 (Nat.le_refl _)
                  have kUp := U.out.cell hlt hlt2
                  have kUq := U.out.cell hlt2 hlt
                  obtain ⟨gU0, hgU0⟩ : ∃ gU0, GM x = gU0 := ⟨_, rfl⟩
                  rw [hgU0] at rU0 kUp
                  clear hgU0
                  obtain ⟨gU1, hgU1⟩ : ∃ gU1, GM y = gU1 := ⟨_, rfl⟩
                  rw [hgU1] at rU1 kUq
                  clear hgU1
                  obtain ⟨p, hp⟩ : ∃ p, pairF xs x y = p := ⟨_, rfl⟩
                  simp only [hp] at kUp
                  obtain ⟨q, hq⟩ : ∃ q, pairF xs y x = q := ⟨_, rfl⟩
                  simp only [hq] at kUq
                  have HH := Lib.hid (And.intro ho (And.intro hp (And.intro hq hz)))
                  clear ho hp hq h0
                  by_cases h1 : q < p
                  · have hd1 : decide (q < p) = true := decide_eq_true h1
                    obtain ⟨s, hs⟩ : ∃ s, (p == o) = s := ⟨_, rfl⟩
                    have HST : Hid (s = true ∨ (O x y == 0 || (decide (pairF xs y x < pairF xs x y) && pairF xs x y == O x y)) = false) := by
                      cases s
                      · right; rw [HH.out.1, HH.out.2.1, HH.out.2.2.1, HH.out.2.2.2, hs]; simp
                      · exact .inl rfl
                    clear h1
                    go_wp2_with fail
                    go_quiet (fail)
                    go_wp2_with fail
                    go_meet
                    exact ⟨s, rfl, HST.out, hby.drewN _⟩
                  · have hd1 : decide (q < p) = false := decide_eq_false h1
                    have HST : Hid ((O x y == 0 || (decide (pairF xs y x < pairF xs x y) && pairF xs x y == O x y)) = false) := by
                      unfold Hid; rw [HH.out.1, HH.out.2.1, HH.out.2.2.1, HH.out.2.2.2, hd1]; rfl
                    clear h1
                    go_wp2_with fail
                    go_quiet (fail)
                    go_wp2_with fail
                    go_meet
                    exact ⟨false, rfl, .inr HST.out, hby.drewN _⟩
              case rest =>
              obtain ⟨s, rfl, hST, hbz⟩ := hcut
              have HST : Hid (s = true ∨ (allTo (fun k => (decide (k = x) || (decide (k = y) || (!decide (pairF xs k x < pairF xs x k) || (!decide (O x y ≤ pairF xs x k) || !decide (O x y ≤ O k y)))))) 0 = true ∧ (O x y == 0 || (decide (pairF xs y x < pairF xs x y) && pairF xs x y == O x y)) = false)) := hST.imp id (fun h => ⟨rfl, h⟩)
              clear hST U V hby
              go_wp2
              go_loopw [13, 14] (fun sv kv wr => ∃ (k : Nat) (u : Bool), k ≤ n ∧ kv = .int .i64 (k : Int) ∧ sv = .bool u ∧ Hid (u = true ∨ (allTo (fun k => (decide (k = x) || (decide (k = y) || (!decide (pairF xs k x < pairF xs x k) || (!decide (O x y ≤ pairF xs x k) || !decide (O x y ≤ O k y)))))) k = true ∧ (O x y == 0 || (decide (pairF xs y x < pairF xs x y) && pairF xs x y == O x y)) = false)) ∧ Dr w5 wr) (fun _ kv _ => n - (intOf kv).toNat)
              case atStart => exact ⟨0, s, Nat.zero_le _, rfl, rfl, HST, hbz⟩
              case round =>
                clear HST
                obtain ⟨k, u, hk, rfl, rfl, hA, hbk⟩ := hrel
                by_cases hlt3 : k < n
                · have hki : (k : Int) < (n : Int) := by omega
                  cases u
                  · have hA2 : Hid (allTo (fun k => (decide (k = x) || (decide (k = y) || (!decide (pairF xs k x < pairF xs x k) || (!decide (O x y ≤ pairF xs x k) || !decide (O x y ≤ O k y)))))) k = true ∧ (O x y == 0 || (decide (pairF xs y x < pairF xs x y) && pairF xs x y == O x y)) = false) := by
                      rcases hA.out with h | h
                      · cases h
                      · exact h
                    clear hA
                    by_cases hkx : k = x
                    · have hk1 : ((k : Int) != (x : Int)) = false := by rw [hkx]; simp
                      have HKX := Lib.hid hkx
                      clear hkx
                      go_wp2_with fail
                      go_quiet (fail)
                      go_wp2
                      go_roundw
                      case rel => exact ⟨k + 1, false, by omega, by go_num, rfl, .inr ⟨by rw [allTo_succ, hA2.out.1]; simp [HKX.out], hA2.out.2⟩, hbk.drewN _⟩
                      case measure => simp [intOf]; omega
                    · have hk1 : ((k : Int) != (x : Int)) = true := bne_iff_ne.2 (by omega)
                      by_cases hky : k = y
                      · have hk2 : ((k : Int) != (y : Int)) = false := by rw [hky]; simp
                        have HKY := Lib.hid hky
                        clear hky
                        go_wp2_with fail
                        go_quiet (fail)
                        go_wp2
                        go_roundw
                        case rel => exact ⟨k + 1, false, by omega, by go_num, rfl, .inr ⟨by rw [allTo_succ, hA2.out.1]; simp [HKY.out], hA2.out.2⟩, hbk.drewN _⟩
                        case measure => simp [intOf]; omega
                      · have hk2 : ((k : Int) != (y : Int)) = true := bne_iff_ne.2 (by omega)
                        have UU := Lib.hid (TM.out.under (hbk.below _))
                        have VV := Lib.hid (T.out.under (hbk.below _))
                        have rUU0 := UU.out.row_cell hlt (Nat.le_refl _)
                        have rUU1 := UU.out.row_cell hlt3 (Nat.le_refl _)
                        have kUUp := UU.out.cell hlt hlt3
                        have kUUq := UU.out.cell hlt3 hlt
                        obtain ⟨gUU0, hgUU0⟩ : ∃ gUU0, GM x = gUU0 := ⟨_, rfl⟩
                        rw [hgUU0] at rUU0 kUUp
                        clear hgUU0
                        obtain ⟨gUU1, hgUU1⟩ : ∃ gUU1, GM k = gUU1 := ⟨_, rfl⟩
                        rw [hgUU1] at rUU1 kUUq
                        clear hgUU1
                        obtain ⟨p, hp⟩ : ∃ p, pairF xs x k = p := ⟨_, rfl⟩
                        simp only [hp] at kUUp
                        obtain ⟨q, hq⟩ : ∃ q, pairF xs k x = q := ⟨_, rfl⟩
                        simp only [hq] at kUUq
                        have rVV0 := VV.out.row_cell hlt (Nat.le_refl _)
                        have rVV1 := VV.out.row_cell hlt3 (Nat.le_refl _)
                        have kVVo := VV.out.cell hlt hlt2
                        have kVVt := VV.out.cell hlt3 hlt2
                        obtain ⟨gVV0, hgVV0⟩ : ∃ gVV0, G x = gVV0 := ⟨_, rfl⟩
                        rw [hgVV0] at rVV0 kVVo
                        clear hgVV0
                        obtain ⟨gVV1, hgVV1⟩ : ∃ gVV1, G k = gVV1 := ⟨_, rfl⟩
                        rw [hgVV1] at rVV1 kVVt
                        clear hgVV1
                        obtain ⟨o, ho⟩ : ∃ o, O x y = o := ⟨_, rfl⟩
                        simp only [ho] at kVVo
                        obtain ⟨t, ht⟩ : ∃ t, O k y = t := ⟨_, rfl⟩
                        simp only [ht] at kVVt
                        have HH := Lib.hid (And.intro hp (And.intro hq (And.intro ho ht)))
                        clear hp hq ho ht
                        by_cases h1 : q < p
                        · have hd1 : decide (q < p) = true := decide_eq_true h1
                          by_cases h2 : o ≤ p
                          · have hd2 : decide (o ≤ p) = true := decide_eq_true h2
                            by_cases h3 : o ≤ t
                            · have hd3 : decide (o ≤ t) = true := decide_eq_true h3
                              go_wp2_with fail
                              go_quiet (fail)
                              go_wp2
                              go_roundw
                              case rel => exact ⟨k + 1, true, by omega, by go_num, rfl, .inl rfl, hbk.drewN _⟩
                              case measure => simp [intOf]; omega
                            · have hd3 : decide (o ≤ t) = false := decide_eq_false h3
                              have H3 := Lib.hid hd3
                              go_wp2_with fail
                              go_quiet (fail)
                              go_wp2
                              go_roundw
                              case rel => exact ⟨k + 1, false, by omega, by go_num, rfl, .inr ⟨by rw [allTo_succ, hA2.out.1]; simp only [HH.out.1, HH.out.2.1, HH.out.2.2.1, HH.out.2.2.2, H3.out]; simp, hA2.out.2⟩, hbk.drewN _⟩
                              case measure => simp [intOf]; omega
                          · have hd2 : decide (o ≤ p) = false := decide_eq_false h2
                            have H2 := Lib.hid hd2
                            go_wp2_with fail
                            go_quiet (fail)
                            go_wp2
                            go_roundw
                            case rel => exact ⟨k + 1, false, by omega, by go_num, rfl, .inr ⟨by rw [allTo_succ, hA2.out.1]; simp only [HH.out.1, HH.out.2.1, HH.out.2.2.1, HH.out.2.2.2, H2.out]; simp, hA2.out.2⟩, hbk.drewN _⟩
                            case measure => simp [intOf]; omega
                        · have hd1 : decide (q < p) = false := decide_eq_false h1
                          have H1 := Lib.hid hd1
                          go_wp2_with fail
                          go_quiet (fail)
                          go_wp2
                          go_roundw
                          case rel => exact ⟨k + 1, false, by omega, by go_num, rfl, .inr ⟨by rw [allTo_succ, hA2.out.1]; simp only [HH.out.1, HH.out.2.1, HH.out.2.2.1, HH.out.2.2.2, H1.out]; simp, hA2.out.2⟩, hbk.drewN _⟩
                          case measure => simp [intOf]; omega
                  · skip
                    go_wp2_with fail
                    go_quiet (fail)
                    go_wp2
                    go_roundw
                    case rel => exact ⟨k + 1, true, by omega, by go_num, rfl, .inl rfl, hbk.drewN _⟩
                    case measure => simp [intOf]; omega
                · obtain rfl : k = n := by omega
                  have hu : u = true := by
                    rcases hA.out with h | ⟨h1, h2⟩
                    · exact h
                    · exact (HEND.out h2 h1).elim
                  subst hu
                  clear hA
                  go_wp2
                  go_roundw
                  case rel => exact ⟨y + 1, by omega, by go_num, hbk⟩
                  case measure => simp [intOf]; omega
            · obtain rfl : y = n := by omega
              go_wp2
              go_roundw
              case rel => exact ⟨x + 1, by omega, by go_num, hby⟩
              case measure => simp [intOf]; omega
        · obtain rfl : x = n := by omega
          go_wp2
          go_ret
          exact ⟨rfl, B.out.trans (hbx.below _)⟩
  · clear w0
    go_enter Try.func10, Try.ntmps10
    go_wp2
    go_ret
    exact ⟨rfl, Below.refl _ _⟩

end Go.Proofs.Ytaaamidkfhabnaa.fnPairPathsStep
