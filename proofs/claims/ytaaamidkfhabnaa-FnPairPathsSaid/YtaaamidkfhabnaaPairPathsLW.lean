/-
  laws.FnPairPaths returns true for every code. No condition.
-/
import Derived.Test.YtaaamidkfhabnaaGrp4
import Derived.Test.YtaaamidkfhabnaaGrp13
import Derived.Test.YtaaamidkfhabnaaPthS
import Derived.Test.YtaaamidkfhabnaaGrp14
import Derived.Test.YtaaamidkfhabnaaGrp15
import Derived.Test.YtaaamidkfhabnaaGrp3
import Derived.Test.YtaaamidkfhabnaaGrp12
namespace Go.Proofs.Ytaaamidkfhabnaa.fnPairPaths
open Go.RowKit
set_option linter.unusedVariables false


set_option maxRecDepth 100000 in
set_option maxHeartbeats 2000000 in
/-- The law's walk: it returns true, and writes nothing that was there. -/
theorem walk (a0 : Option Addr) (len0 cap0 : Nat) (z0 : List Int) (w : World) (w0 : IsRow .u8 w a0 len0 cap0 z0) :
    Calls Try.prog 9 #[.slice a0 len0 cap0] w fun e w' => e = .returned (.bool true) ∧ Below w.heap.size w w' := by
  by_cases hl : len0 ≤ 1048576
  · skip
    have hcap := w0.cap
    have HB := Lib.hid w0.bytes; clear w0
    go_enter Try.func9, Try.ntmps9
    go_wp2_with fail
    refine (drawXPaths_any a0 len0 cap0 _ _ HB.out hcap (by omega)).mono ?_
    rintro e w1 ⟨xs, g, c, n, rfl, hp, hn6, hb⟩
    have P := Lib.hid hp
    have B := Lib.hid hb
    have HSM := Lib.hid hp.2.1
    have hl13 := hp.2.2.2
    clear hb HB hp
    obtain ⟨v, hv⟩ : ∃ v, fitsB xs (n : Int) = v := ⟨_, rfl⟩
    have HV := Lib.hid hv
    go_wp2_with fail
    refine (implPairPaths_as _ _ _ xs (n : Int) v _ P.out.piles HSM.out hv).mono ?_
    clear hv
    rintro e w2 (⟨rfl, rfl, hb⟩ | ⟨rfl, gt, G, rfl, hT, -, hb⟩)
    · skip
      have P := Lib.hid (P.out.below hb)
      have B := Lib.hid (B.out.trans (hb.mono B.out.size))
      clear hb
      go_wp2_with fail
      refine (specPairPaths_as _ _ _ xs (n : Int) false _ P.out.piles HSM.out HV.out).mono ?_
      rintro e w3 ⟨aw, cw, _, _, rfl, -, hb⟩
      have P := Lib.hid (P.out.below hb)
      have B := Lib.hid (B.out.trans (hb.mono B.out.size))
      clear hb
      have IA : Hid (IsRows w3 none 0 0 []) := IsRows.empty _ _ _
      have IB : Hid (IsRows w3 aw 0 cw []) := IsRows.empty _ _ _
      simp only [Bool.false_eq_true, if_false]
      go_wp2_with fail
      refine (sameTable_same _ _ _ _ _ _ _ IA.out IB.out).mono ?_
      rintro e w4 ⟨rfl, hd⟩
      have hb := hd.below w3.heap.size
      have P := Lib.hid (P.out.below hb)
      have B := Lib.hid (B.out.trans (hb.mono B.out.size))
      clear hb hd
      have IA : Hid (IsRows w4 none 0 0 []) := IsRows.empty _ _ _
      have IB : Hid (IsRows w4 aw 0 cw []) := IsRows.empty _ _ _
      go_wp2_with fail
      refine (sameTable_same _ _ _ _ _ _ _ IA.out IB.out).mono ?_
      rintro e w5 ⟨rfl, hd⟩
      have hb := hd.below w4.heap.size
      have P := Lib.hid (P.out.below hb)
      have B := Lib.hid (B.out.trans (hb.mono B.out.size))
      clear hb hd
      go_wp2
      go_ret
      exact ⟨rfl, B.out⟩
    · skip
      obtain ⟨hpv, hn1i, hn5i, -⟩ := fits_parts HV.out
      have hn1 : 1 ≤ n := by omega
      have hn5 : n ≤ 5 := by omega
      have HP := Lib.hid hpv
      clear hpv hn1i hn5i
      rw [Int.toNat_natCast] at hT ⊢
      have P := Lib.hid (P.out.below hb)
      have T := Lib.hid hT
      have B := Lib.hid (B.out.trans (hb.mono B.out.size))
      clear hb hT
      go_wp2_with fail
      refine (specPairPaths_as _ _ _ xs (n : Int) true _ P.out.piles HSM.out HV.out).mono ?_
      rintro e w3 ⟨aw, cw, G2, C2, rfl, hT2, hb⟩
      have P := Lib.hid (P.out.below hb)
      have T := Lib.hid (T.out.under hb)
      have T2 := Lib.hid (hT2 rfl)
      have B := Lib.hid (B.out.trans (hb.mono B.out.size))
      clear hb hT2
      rw [Int.toNat_natCast] at T2
      simp only [if_true]
      have IA := Lib.hid (T.out.isRows (by omega) (fun i j _ _ => rfl))
      have IB := Lib.hid (T2.out.isRows (by omega) (fun i j _ _ => rfl))
      clear T2
      go_wp2_with fail
      refine (sameTable_same _ _ _ _ _ _ _ IA.out IB.out).mono ?_
      rintro e w4 ⟨rfl, hd⟩
      have hb := hd.below w3.heap.size
      have P := Lib.hid (P.out.below hb)
      have T := Lib.hid (T.out.under hb)
      have B := Lib.hid (B.out.trans (hb.mono B.out.size))
      clear hb hd IA IB
      obtain ⟨O, hO⟩ : ∃ O, pathL (pairF xs) n = O := ⟨_, rfl⟩
      have HO := Lib.hid hO
      rw [hO] at T
      clear hO
      go_wp2_with fail
      refine (implPairCounts_as _ _ _ xs (n : Int) true _ P.out.piles HSM.out HV.out).mono ?_
      rintro e w5 (⟨h, _⟩ | ⟨-, gm, GM, rfl, hT, -, hb⟩)
      · cases h
      rw [Int.toNat_natCast] at hT ⊢
      have P := Lib.hid (P.out.below hb)
      have T := Lib.hid (T.out.under hb)
      have TM := Lib.hid hT
      have B := Lib.hid (B.out.trans (hb.mono B.out.size))
      clear hb hT
      have hne : ((n : Int) != (n : Int)) = false := by simp
      have HLOW : Hid (∀ x y, 0 ≤ pairF xs x y) := fun x y => pairF_low (pilesB_pos HP.out).2.1 x y
      go_wp2
      go_loopw [11, 12, 13] (fun xv _ _ wr => ∃ x : Nat, x ≤ n ∧ xv = .int .i64 (x : Int) ∧ Dr w5 wr) (fun xv _ _ _ => n - (intOf xv).toNat)
      case atStart => exact ⟨0, Nat.zero_le _, rfl, Dr.refl _⟩
      case round =>
        obtain ⟨x, hx, rfl, hbx⟩ := hrel
        by_cases hlt : x < n
        · go_wp2
          go_loopw [12, 13] (fun yv _ wr => ∃ y : Nat, y ≤ n ∧ yv = .int .i64 (y : Int) ∧ Dr w5 wr) (fun yv _ _ => n - (intOf yv).toNat)
          case atStart => exact ⟨0, Nat.zero_le _, rfl, hbx⟩
          case round =>
            obtain ⟨y, hy, rfl, hby⟩ := hrel
            by_cases hlt2 : y < n
            · have hxi : (x : Int) < (n : Int) := by omega
              have hyi : (y : Int) < (n : Int) := by omega
              by_cases hxy : x = y
              · have hxe : ((x : Int) != (y : Int)) = false := by rw [hxy]; simp
                clear hxy
                go_wp2_with fail
                go_quiet (fail)
                go_wp2
                go_loopw [13] (fun kv wr => ∃ k : Nat, k ≤ n ∧ kv = .int .i64 (k : Int) ∧ Dr w5 wr) (fun kv _ => n - (intOf kv).toNat)
                case atStart => exact ⟨0, Nat.zero_le _, rfl, hby.drewN _⟩
                case round =>
                  obtain ⟨k, hk, rfl, hbk⟩ := hrel
                  by_cases hlt3 : k < n
                  · have hki : (k : Int) < (n : Int) := by omega
                    go_wp2_with fail
                    go_quiet (fail)
                    go_wp2
                    go_roundw
                    case rel => exact ⟨k + 1, by omega, by go_num, hbk.drewN _⟩
                    case measure => simp [intOf]; omega
                  · obtain rfl : k = n := by omega
                    go_wp2
                    go_roundw
                    case rel => exact ⟨y + 1, by omega, by go_num, hbk⟩
                    case measure => simp [intOf]; omega
              · have hxe : ((x : Int) != (y : Int)) = true := bne_iff_ne.2 (by omega)
                have U := Lib.hid (TM.out.under (hby.below _))
                have V := Lib.hid (T.out.under (hby.below _))
                have rU0 := U.out.row_cell hlt (Nat.le_refl _)
                have rU1 := U.out.row_cell hlt2 (Nat.le_refl _)
                have kUp := U.out.cell hlt hlt2
                have kUq := U.out.cell hlt2 hlt
                obtain ⟨gU0, hgU0⟩ : ∃ gU0, GM x = gU0 := ⟨_, rfl⟩
                rw [hgU0] at rU0 kUp
                clear hgU0
                obtain ⟨gU1, hgU1⟩ : ∃ gU1, GM y = gU1 := ⟨_, rfl⟩
                rw [hgU1] at rU1 kUq
                clear hgU1
                obtain ⟨p, hp⟩ : ∃ p, pairF xs x y = p := ⟨_, rfl⟩
                simp only [hp] at kUp
                obtain ⟨q, hq⟩ : ∃ q, pairF xs y x = q := ⟨_, rfl⟩
                simp only [hq] at kUq
                have rV0 := V.out.row_cell hlt (Nat.le_refl _)
                have kVo := V.out.cell hlt hlt2
                obtain ⟨gV0, hgV0⟩ : ∃ gV0, G x = gV0 := ⟨_, rfl⟩
                rw [hgV0] at rV0 kVo
                clear hgV0
                obtain ⟨o, ho⟩ : ∃ o, O x y = o := ⟨_, rfl⟩
                simp only [ho] at kVo
                by_cases hb : q < p
                · have hd1 : decide (q < p) = true := decide_eq_true hb
                  have hd2 : decide (o < p) = false := decide_eq_false (by
                    have h := path_step (m := pairF xs) (x := x) (y := y) (by rw [hp, hq]; exact hb) n
                    have e : pathTo (pairF xs) n = O := HO.out
                    rw [e, hp, ho] at h
                    omega)
                  clear hp hq ho
                  go_wp2_with fail
                  go_quiet (fail)
                  clear U V rU0 rU1 rV0 kUp kUq kVo hd1 hd2 hb
                  go_wp2
                  go_loopw [13] (fun kv wr => ∃ k : Nat, k ≤ n ∧ kv = .int .i64 (k : Int) ∧ Dr w5 wr) (fun kv _ => n - (intOf kv).toNat)
                  case atStart => exact ⟨0, Nat.zero_le _, rfl, hby.drewN _⟩
                  case round =>
                    obtain ⟨k, hk, rfl, hbk⟩ := hrel
                    by_cases hlt3 : k < n
                    · have hki : (k : Int) < (n : Int) := by omega
                      by_cases hkx : k = x
                      · have hk1 : ((k : Int) != (x : Int)) = false := by rw [hkx]; simp
                        clear hkx
                        go_wp2_with fail
                        go_quiet (fail)
                        go_wp2
                        go_roundw
                        case rel => exact ⟨k + 1, by omega, by go_num, hbk.drewN _⟩
                        case measure => simp [intOf]; omega
                      · have hk1 : ((k : Int) != (x : Int)) = true := bne_iff_ne.2 (by omega)
                        by_cases hky : k = y
                        · have hk2 : ((k : Int) != (y : Int)) = false := by rw [hky]; simp
                          clear hky
                          go_wp2_with fail
                          go_quiet (fail)
                          go_wp2
                          go_roundw
                          case rel => exact ⟨k + 1, by omega, by go_num, hbk.drewN _⟩
                          case measure => simp [intOf]; omega
                        · have hk2 : ((k : Int) != (y : Int)) = true := bne_iff_ne.2 (by omega)
                          have U := Lib.hid (T.out.under (hbk.below _))
                          have rU0 := U.out.row_cell hlt (Nat.le_refl _)
                          have rU1 := U.out.row_cell hlt3 (Nat.le_refl _)
                          have kUp := U.out.cell hlt hlt3
                          have kUq := U.out.cell hlt3 hlt2
                          have kUo := U.out.cell hlt hlt2
                          obtain ⟨gU0, hgU0⟩ : ∃ gU0, G x = gU0 := ⟨_, rfl⟩
                          rw [hgU0] at rU0 kUp kUo
                          clear hgU0
                          obtain ⟨gU1, hgU1⟩ : ∃ gU1, G k = gU1 := ⟨_, rfl⟩
                          rw [hgU1] at rU1 kUq
                          clear hgU1
                          obtain ⟨p, hp⟩ : ∃ p, O x k = p := ⟨_, rfl⟩
                          simp only [hp] at kUp
                          obtain ⟨q, hq⟩ : ∃ q, O k y = q := ⟨_, rfl⟩
                          simp only [hq] at kUq
                          obtain ⟨o, ho⟩ : ∃ o, O x y = o := ⟨_, rfl⟩
                          simp only [ho] at kUo
                          have hmin : decide (o < min p q) = false := decide_eq_false (by
                            have h := path_trans (m := pairF xs) n k hlt3 x y hxy hkx hky
                            have e : pathTo (pairF xs) n = O := HO.out
                            rw [e, hp, hq, ho] at h
                            omega)
                          clear hp hq ho
                          go_wp2_with fail
                          go_quiet (fail)
                          go_wp2
                          go_roundw
                          case rel => exact ⟨k + 1, by omega, by go_num, hbk.drewN _⟩
                          case measure => simp [intOf]; omega
                    · obtain rfl : k = n := by omega
                      go_wp2
                      go_roundw
                      case rel => exact ⟨y + 1, by omega, by go_num, hbk⟩
                      case measure => simp [intOf]; omega
                · have hd1 : decide (q < p) = false := decide_eq_false hb
                  clear hp hq ho
                  go_wp2_with fail
                  go_quiet (fail)
                  clear U V rU0 rU1 rV0 kUp kUq kVo hd1 hb
                  go_wp2
                  go_loopw [13] (fun kv wr => ∃ k : Nat, k ≤ n ∧ kv = .int .i64 (k : Int) ∧ Dr w5 wr) (fun kv _ => n - (intOf kv).toNat)
                  case atStart => exact ⟨0, Nat.zero_le _, rfl, hby.drewN _⟩
                  case round =>
                    obtain ⟨k, hk, rfl, hbk⟩ := hrel
                    by_cases hlt3 : k < n
                    · have hki : (k : Int) < (n : Int) := by omega
                      by_cases hkx : k = x
                      · have hk1 : ((k : Int) != (x : Int)) = false := by rw [hkx]; simp
                        clear hkx
                        go_wp2_with fail
                        go_quiet (fail)
                        go_wp2
                        go_roundw
                        case rel => exact ⟨k + 1, by omega, by go_num, hbk.drewN _⟩
                        case measure => simp [intOf]; omega
                      · have hk1 : ((k : Int) != (x : Int)) = true := bne_iff_ne.2 (by omega)
                        by_cases hky : k = y
                        · have hk2 : ((k : Int) != (y : Int)) = false := by rw [hky]; simp
                          clear hky
                          go_wp2_with fail
                          go_quiet (fail)
                          go_wp2
                          go_roundw
                          case rel => exact ⟨k + 1, by omega, by go_num, hbk.drewN _⟩
                          case measure => simp [intOf]; omega
                        · have hk2 : ((k : Int) != (y : Int)) = true := bne_iff_ne.2 (by omega)
                          have U := Lib.hid (T.out.under (hbk.below _))
                          have rU0 := U.out.row_cell hlt (Nat.le_refl _)
                          have rU1 := U.out.row_cell hlt3 (Nat.le_refl _)
                          have kUp := U.out.cell hlt hlt3
                          have kUq := U.out.cell hlt3 hlt2
                          have kUo := U.out.cell hlt hlt2
                          obtain ⟨gU0, hgU0⟩ : ∃ gU0, G x = gU0 := ⟨_, rfl⟩
                          rw [hgU0] at rU0 kUp kUo
                          clear hgU0
                          obtain ⟨gU1, hgU1⟩ : ∃ gU1, G k = gU1 := ⟨_, rfl⟩
                          rw [hgU1] at rU1 kUq
                          clear hgU1
                          obtain ⟨p, hp⟩ : ∃ p, O x k = p := ⟨_, rfl⟩
                          simp only [hp] at kUp
                          obtain ⟨q, hq⟩ : ∃ q, O k y = q := ⟨_, rfl⟩
                          simp only [hq] at kUq
                          obtain ⟨o, ho⟩ : ∃ o, O x y = o := ⟨_, rfl⟩
                          simp only [ho] at kUo
                          have hmin : decide (o < min p q) = false := decide_eq_false (by
                            have h := path_trans (m := pairF xs) n k hlt3 x y hxy hkx hky
                            have e : pathTo (pairF xs) n = O := HO.out
                            rw [e, hp, hq, ho] at h
                            omega)
                          clear hp hq ho
                          go_wp2_with fail
                          go_quiet (fail)
                          go_wp2
                          go_roundw
                          case rel => exact ⟨k + 1, by omega, by go_num, hbk.drewN _⟩
                          case measure => simp [intOf]; omega
                    · obtain rfl : k = n := by omega
                      go_wp2
                      go_roundw
                      case rel => exact ⟨y + 1, by omega, by go_num, hbk⟩
                      case measure => simp [intOf]; omega
            · obtain rfl : y = n := by omega
              go_wp2
              go_roundw
              case rel => exact ⟨x + 1, by omega, by go_num, hby⟩
              case measure => simp [intOf]; omega
        · obtain rfl : x = n := by omega
          go_wp2
          go_ret
          exact ⟨rfl, B.out.trans (hbx.below _)⟩
  · clear w0
    go_enter Try.func9, Try.ntmps9
    go_wp2
    go_ret
    exact ⟨rfl, Below.refl _ _⟩

end Go.Proofs.Ytaaamidkfhabnaa.fnPairPaths
