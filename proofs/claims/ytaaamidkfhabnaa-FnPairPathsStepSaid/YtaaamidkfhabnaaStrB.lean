/-
  impl.strongestPaths at bool: in memory of the call's own, for every function value whose rows are closures over two variables.
-/
import Derived.Test.YtaaamidkfhabnaaWriteB
import Derived.Test.YtaaamidkfhabnaaWarP
import Derived.Test.YtaaamidkfhabnaaGrp7
namespace Go.Proofs.Ytaaamidkfhabnaa
open Go.RowKit

attribute [local go_sem] Oper.semAt_some

set_option maxHeartbeats 1000000 in
theorem both_any (a b : Bool) (w : World) : Calls Try.prog 55 #[.bool a, .bool b] w fun e w' => e = .returned (.bool (a && b)) ∧ w' = w := by
  cases a
  all_goals
    go_enter Try.func55, Try.ntmps55
    go_wp2
    go_ret
    exact ⟨rfl, rfl⟩
set_option maxHeartbeats 1000000 in
theorem either_any (a b : Bool) (w : World) : Calls Try.prog 56 #[.bool a, .bool b] w fun e w' => e = .returned (.bool (a || b)) ∧ w' = w := by
  cases a
  all_goals
    go_enter Try.func56, Try.ntmps56
    go_wp2
    go_ret
    exact ⟨rfl, rfl⟩

set_option maxRecDepth 100000 in
set_option maxHeartbeats 8000000 in
/-- **strongestPaths[bool]**. -/
theorem strongB_any (n k k2 : Nat) (first cap : Array Value) (M : Nat → Nat → Int) (w : World) (hk : Ent k) (hk2 : Ent k2) (hrow : RowOf w k first cap n k2 (fun x y => .bool (decide (M y x ≤ M x y)))) (hn1 : 1 ≤ n) (hn : n ≤ 5) :
    Calls Try.prog 57 #[.int .i64 (n : Int), .func (.func k) first cap, .func (.func 55) #[] #[], .func (.func 56) #[] #[]] w fun e w' => ∃ g G, e = .returned (.slice (some ⟨g, 0, none⟩) n n) ∧ Tb 4 69 w' w.heap.size (some ⟨g, 0, none⟩) n n n n G (fun _ => n) (fun x y => .bool (reachL M n x y)) ∧ (∀ j, j < n → g < G j) ∧ Below w.heap.size w w' := by
  have HR := Lib.hid hrow
  clear hrow
  obtain ⟨G0, hG⟩ : ∃ G, w.heap.size = G := ⟨_, rfl⟩
  go_enter Try.func57, Try.ntmps57
  go_wp2_with fail
  refine (writeB_any n k k2 first cap (atLeast M) _ hk hk2 HR.out hn).mono ?_
  rintro e w1 ⟨go, G', rfl, hT, hGg, hB1⟩
  rw [hG] at hT hB1
  have HT := Lib.hid hT
  have HGG := Lib.hid hGg
  clear hT hGg
  go_wp2
  go_loopw [10, 11, 12, 17, 21, 25] (fun _ _ _ kv _ _ wr => ∃ k : Nat, k ≤ n ∧ kv = .int .i64 (k : Int) ∧ Hid (Tb 4 69 wr G0 (some ⟨go, 0, none⟩) n n n n G' (fun _ => n) (fun i j => .bool (reachTo (atLeast M) k i j))) ∧ Below G0 w wr) (fun _ _ _ kv _ _ _ => n - (intOf kv).toNat)
  case atStart => exact ⟨0, Nat.zero_le _, rfl, HT, hB1⟩
  case round =>
    clear HT hB1 hk hk2
    obtain ⟨k, hk, rfl, hT1, hB⟩ := hrel
    by_cases hlt : k < n
    · obtain ⟨P, hP⟩ : ∃ P, reachTo (atLeast M) k = P := ⟨_, rfl⟩
      have HP : Hid (reachTo (atLeast M) (k + 1) = stageB P k) := by unfold Hid; rw [reachTo_succ, hP]
      have HPD : Hid (∀ i, P i i = true) := fun i => by rw [← hP]; exact reach_step (by unfold atLeast; exact decide_eq_true (Int.le_refl _)) k
      rw [hP] at hT1
      have HT1 : Hid (Tb 4 69 wr G0 (some ⟨go, 0, none⟩) n n n n G' (fun _ => n) (fun i j => .bool (curB P k 0 0 i j))) := hT1.out.congr (fun i j _ _ => by rw [curB_start])
      clear hP hT1
      go_wp2
      go_loopw [11, 12, 21, 25] (fun _ _ av _ wr => ∃ a : Nat, a ≤ n ∧ av = .int .i64 (a : Int) ∧ Hid (Tb 4 69 wr G0 (some ⟨go, 0, none⟩) n n n n G' (fun _ => n) (fun i j => .bool (curB P k a 0 i j))) ∧ Below G0 w wr) (fun _ _ av _ _ => n - (intOf av).toNat)
      case atStart => exact ⟨0, Nat.zero_le _, rfl, HT1, hB⟩
      case round =>
        clear HT1 hB
        obtain ⟨a, ha, rfl, hT2, hB⟩ := hrel
        by_cases hlta : a < n
        · go_wp2
          go_loopw [12, 25] (fun _ bv wr => ∃ b : Nat, b ≤ n ∧ bv = .int .i64 (b : Int) ∧ Hid (Tb 4 69 wr G0 (some ⟨go, 0, none⟩) n n n n G' (fun _ => n) (fun i j => .bool (curB P k a b i j))) ∧ Below G0 w wr) (fun _ bv _ => n - (intOf bv).toNat)
          case atStart => exact ⟨0, Nat.zero_le _, rfl, hT2, hB⟩
          case round =>
            clear hT2 hB
            rename World => w5
            obtain ⟨b, hb, rfl, hT3, hB⟩ := hrel
            by_cases hltb : b < n
            · by_cases hab : a = b
              · subst hab
                have hne : ((a : Int) != (a : Int)) = false := by simp
                have T6 : Hid (Tb 4 69 w5 G0 (some ⟨go, 0, none⟩) n n n n G' (fun _ => n) (fun i j => .bool (curB P k a (a + 1) i j))) :=
                  hT3.out.congr (fun i j _ _ => by rw [curB_same (by unfold stageB; rw [HPD.out a]; rfl)])
                go_wp2
                go_roundw
                case rel => exact ⟨a + 1, by omega, by go_num, T6, hB⟩
                case measure => simp [intOf]; omega
              · have hne : ((a : Int) != (b : Int)) = true := bne_iff_ne.2 (by omega)
                have ra := hT3.out.row_cell hlta (Nat.le_refl _)
                have rk := hT3.out.row_cell hlt (Nat.le_refl _)
                have cab := hT3.out.cell hlta hltb
                have cak := hT3.out.cell hlta hlt
                have ckb := hT3.out.cell hlt hltb
                have fab := hT3.out.frozen hlta b
                simp only [curB_at] at cab
                simp only [curB_col] at cak
                simp only [curB_row] at ckb
                obtain ⟨p, hp⟩ : ∃ p, P a b = p := ⟨_, rfl⟩
                obtain ⟨q, hq⟩ : ∃ q, P a k = q := ⟨_, rfl⟩
                obtain ⟨r, hr⟩ : ∃ r, P k b = r := ⟨_, rfl⟩
                have hst : stageB P k a b = (p || (q && r)) := by unfold stageB; rw [hp, hq, hr]
                rw [hp] at cab
                rw [hq] at cak
                rw [hr] at ckb
                have hset := hT3.out.set (by decide) hlta hltb (.bool (p || (q && r)))
                have T6 : Tb 4 69 (w5.setCell ⟨G' a, b, none⟩ (.bool (p || (q && r)))) G0 (some ⟨go, 0, none⟩) n n n n G' (fun _ => n) (fun i j => .bool (curB P k a (b + 1) i j)) :=
                  hset.1.congr (fun i j _ _ => by
                    rw [← curB_step (i := i) (j := j) hst.symm]
                    split <;> rfl)
                have B6 : Below G0 w (w5.setCell ⟨G' a, b, none⟩ (.bool (p || (q && r)))) := hB.setCell (p := ⟨G' a, b, none⟩) (hT3.out.lt hlta).1 _
                obtain ⟨ga, hga⟩ : ∃ ga, G' a = ga := ⟨_, rfl⟩
                obtain ⟨gk, hgk⟩ : ∃ gk, G' k = gk := ⟨_, rfl⟩
                rw [hga] at ra cab cak fab T6 B6
                rw [hgk] at rk ckb
                have hai : (a : Int) < (n : Int) := by omega
                have hbi : (b : Int) < (n : Int) := by omega
                have hki : (k : Int) < (n : Int) := by omega
                have T7 : Hid (Tb 4 69 (w5.drew.setCell ⟨ga, b, none⟩ (.bool (p || (q && r)))) G0 (some ⟨go, 0, none⟩) n n n n G' (fun _ => n) (fun i j => .bool (curB P k a (b + 1) i j))) := T6.under (Below.refl _ _).drew
                have B7 : Below G0 w (w5.drew.setCell ⟨ga, b, none⟩ (.bool (p || (q && r)))) := B6.drew
                have cabd : w5.drew.cell? ⟨ga, b, none⟩ = some (.bool p) := cab
                have fabd : w5.drew.frozen? ⟨ga, b, none⟩ = false := fab
                clear hset hst hp hq hr hga hgk hT3 T6 B6 fab
                go_wp2_with fail
                refine region_quiet_tail 31 (by kernel_rfl) (by kernel_rfl) ?_
                simp only [List.take_succ_cons, List.take_zero, List.drop_succ_cons, List.drop_zero]
                repeat (first | go_big_quiet_step (fail) | (go_big_quiet_want; go_big_quiet_op; refine ⟨_, both_any _ _ _, ?_⟩; go_big_quiet_on) | (go_big_quiet_want; go_big_quiet_op; refine ⟨_, either_any _ _ _, ?_⟩; go_big_quiet_on))
                refine wpQuiet_nil ?_
                generalize w5.drew = w6 at T7 B7 cabd fabd ⊢
                go_wp2
                go_roundw
                case rel => exact ⟨b + 1, by omega, by go_num, T7, B7⟩
                case measure => simp [intOf]; omega
            · obtain rfl : b = n := by omega
              have T6 : Hid (Tb 4 69 w5 G0 (some ⟨go, 0, none⟩) b b b b G' (fun _ => b) (fun i j => .bool (curB P k (a + 1) 0 i j))) :=
                hT3.out.congr (fun i j _ hj => by rw [curB_next hj])
              go_wp2
              go_roundw
              case rel => exact ⟨a + 1, by omega, by go_num, T6, hB⟩
              case measure => simp [intOf]; omega
        · obtain rfl : a = n := by omega
          have T6 : Hid (Tb 4 69 wr G0 (some ⟨go, 0, none⟩) a a a a G' (fun _ => a) (fun i j => .bool (reachTo (atLeast M) (k + 1) i j))) :=
            hT2.out.congr (fun i j hi _ => by rw [curB_end hi, HP.out])
          go_wp2
          go_roundw
          case rel => exact ⟨k + 1, by omega, by go_num, T6, hB⟩
          case measure => simp [intOf]; omega
    · obtain rfl : k = n := by omega
      go_wp2
      go_ret
      exact ⟨_, G', rfl, hG.symm ▸ hT1.out, HGG.out, hG.symm ▸ hB⟩

end Go.Proofs.Ytaaamidkfhabnaa
