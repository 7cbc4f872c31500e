/-
  impl.strongestPaths at int: in memory of the call's own, for every function value whose rows are closures over two variables.
-/
import Derived.Test.YtaaamidkfhabnaaWriteI
import Derived.Test.YtaaamidkfhabnaaWarP
import Derived.Test.YtaaamidkfhabnaaGrp7
namespace Go.Proofs.Ytaaamidkfhabnaa
open Go.RowKit

attribute [local go_sem] Oper.semAt_some

set_option maxHeartbeats 1000000 in
theorem weaker_any (a b : Int) (w : World) : Calls Try.prog 64 #[.int .i64 a, .int .i64 b] w fun e w' => e = .returned (.int .i64 (min a b)) ∧ w' = w := by
  go_enter Try.func64, Try.ntmps64
  go_wp2
  all_goals
    go_ret
    exact ⟨ret_int (by omega), rfl⟩
set_option maxHeartbeats 1000000 in
theorem stronger_any (a b : Int) (w : World) : Calls Try.prog 65 #[.int .i64 a, .int .i64 b] w fun e w' => e = .returned (.int .i64 (max a b)) ∧ w' = w := by
  go_enter Try.func65, Try.ntmps65
  go_wp2
  all_goals
    go_ret
    exact ⟨ret_int (by omega), rfl⟩

set_option maxRecDepth 100000 in
set_option maxHeartbeats 8000000 in
/-- **strongestPaths[int]**. -/
theorem strongI_any (n k k2 : Nat) (first cap : Array Value) (M : Nat → Nat → Int) (w : World) (hk : Ent k) (hk2 : Ent k2) (hrow : RowOf w k first cap n k2 (fun x y => .int .i64 (steps M x y))) (hn1 : 1 ≤ n) (hn : n ≤ 5) :
    Calls Try.prog 66 #[.int .i64 (n : Int), .func (.func k) first cap, .func (.func 64) #[] #[], .func (.func 65) #[] #[]] w fun e w' => ∃ g G, e = .returned (.slice (some ⟨g, 0, none⟩) n n) ∧ Tb 3 30 w' w.heap.size (some ⟨g, 0, none⟩) n n n n G (fun _ => n) (fun x y => .int .i64 (pathL M n x y)) ∧ (∀ j, j < n → g < G j) ∧ Below w.heap.size w w' := by
  have HR := Lib.hid hrow
  clear hrow
  obtain ⟨G0, hG⟩ : ∃ G, w.heap.size = G := ⟨_, rfl⟩
  go_enter Try.func66, Try.ntmps66
  go_wp2_with fail
  refine (writeI_any n k k2 first cap (steps M) _ hk hk2 HR.out hn).mono ?_
  rintro e w1 ⟨go, G', rfl, hT, hGg, hB1⟩
  rw [hG] at hT hB1
  have HT := Lib.hid hT
  have HGG := Lib.hid hGg
  clear hT hGg
  go_wp2
  go_loopw [10, 11, 12, 17, 21, 25] (fun _ _ _ kv _ _ wr => ∃ k : Nat, k ≤ n ∧ kv = .int .i64 (k : Int) ∧ Hid (Tb 3 30 wr G0 (some ⟨go, 0, none⟩) n n n n G' (fun _ => n) (fun i j => .int .i64 (pathTo M k i j))) ∧ Below G0 w wr) (fun _ _ _ kv _ _ _ => n - (intOf kv).toNat)
  case atStart => exact ⟨0, Nat.zero_le _, rfl, HT, hB1⟩
  case round =>
    clear HT hB1 hk hk2
    obtain ⟨k, hk, rfl, hT1, hB⟩ := hrel
    by_cases hlt : k < n
    · obtain ⟨P, hP⟩ : ∃ P, pathTo M k = P := ⟨_, rfl⟩
      have HP : Hid (pathTo M (k + 1) = stageI P k) := by unfold Hid; rw [pathTo_succ, hP]
      rw [hP] at hT1
      have HT1 : Hid (Tb 3 30 wr G0 (some ⟨go, 0, none⟩) n n n n G' (fun _ => n) (fun i j => .int .i64 (curI P k 0 0 i j))) := hT1.out.congr (fun i j _ _ => by rw [curI_start])
      clear hP hT1
      go_wp2
      go_loopw [11, 12, 21, 25] (fun _ _ av _ wr => ∃ a : Nat, a ≤ n ∧ av = .int .i64 (a : Int) ∧ Hid (Tb 3 30 wr G0 (some ⟨go, 0, none⟩) n n n n G' (fun _ => n) (fun i j => .int .i64 (curI P k a 0 i j))) ∧ Below G0 w wr) (fun _ _ av _ _ => n - (intOf av).toNat)
      case atStart => exact ⟨0, Nat.zero_le _, rfl, HT1, hB⟩
      case round =>
        clear HT1 hB
        obtain ⟨a, ha, rfl, hT2, hB⟩ := hrel
        by_cases hlta : a < n
        · go_wp2
          go_loopw [12, 25] (fun _ bv wr => ∃ b : Nat, b ≤ n ∧ bv = .int .i64 (b : Int) ∧ Hid (Tb 3 30 wr G0 (some ⟨go, 0, none⟩) n n n n G' (fun _ => n) (fun i j => .int .i64 (curI P k a b i j))) ∧ Below G0 w wr) (fun _ bv _ => n - (intOf bv).toNat)
          case atStart => exact ⟨0, Nat.zero_le _, rfl, hT2, hB⟩
          case round =>
            clear hT2 hB
            rename World => w5
            obtain ⟨b, hb, rfl, hT3, hB⟩ := hrel
            by_cases hltb : b < n
            · by_cases hab : a = b
              · subst hab
                have hne : ((a : Int) != (a : Int)) = false := by simp
                have T6 : Hid (Tb 3 30 w5 G0 (some ⟨go, 0, none⟩) n n n n G' (fun _ => n) (fun i j => .int .i64 (curI P k a (a + 1) i j))) :=
                  hT3.out.congr (fun i j _ _ => by rw [curI_same (stageI_diag P k a).symm])
                go_wp2
                go_roundw
                case rel => exact ⟨a + 1, by omega, by go_num, T6, hB⟩
                case measure => simp [intOf]; omega
              · have hne : ((a : Int) != (b : Int)) = true := bne_iff_ne.2 (by omega)
                have ra := hT3.out.row_cell hlta (Nat.le_refl _)
                have rk := hT3.out.row_cell hlt (Nat.le_refl _)
                have cab := hT3.out.cell hlta hltb
                have cak := hT3.out.cell hlta hlt
                have ckb := hT3.out.cell hlt hltb
                have fab := hT3.out.frozen hlta b
                simp only [curI_at] at cab
                simp only [curI_col] at cak
                simp only [curI_row] at ckb
                obtain ⟨p, hp⟩ : ∃ p, P a b = p := ⟨_, rfl⟩
                obtain ⟨q, hq⟩ : ∃ q, P a k = q := ⟨_, rfl⟩
                obtain ⟨r, hr⟩ : ∃ r, P k b = r := ⟨_, rfl⟩
                have hst : stageI P k a b = max p (min q r) := by rw [stageI_ne P k hab, hp, hq, hr]
                rw [hp] at cab
                rw [hq] at cak
                rw [hr] at ckb
                have hset := hT3.out.set (by decide) hlta hltb (.int .i64 (max p (min q r)))
                have T6 : Tb 3 30 (w5.setCell ⟨G' a, b, none⟩ (.int .i64 (max p (min q r)))) G0 (some ⟨go, 0, none⟩) n n n n G' (fun _ => n) (fun i j => .int .i64 (curI P k a (b + 1) i j)) :=
                  hset.1.congr (fun i j _ _ => by
                    rw [← curI_step (i := i) (j := j) hst.symm]
                    split <;> rfl)
                have B6 : Below G0 w (w5.setCell ⟨G' a, b, none⟩ (.int .i64 (max p (min q r)))) := hB.setCell (p := ⟨G' a, b, none⟩) (hT3.out.lt hlta).1 _
                obtain ⟨ga, hga⟩ : ∃ ga, G' a = ga := ⟨_, rfl⟩
                obtain ⟨gk, hgk⟩ : ∃ gk, G' k = gk := ⟨_, rfl⟩
                rw [hga] at ra cab cak fab T6 B6
                rw [hgk] at rk ckb
                have hai : (a : Int) < (n : Int) := by omega
                have hbi : (b : Int) < (n : Int) := by omega
                have hki : (k : Int) < (n : Int) := by omega
                have T7 : Hid (Tb 3 30 (w5.drew.setCell ⟨ga, b, none⟩ (.int .i64 (max p (min q r)))) G0 (some ⟨go, 0, none⟩) n n n n G' (fun _ => n) (fun i j => .int .i64 (curI P k a (b + 1) i j))) := T6.under (Below.refl _ _).drew
                have B7 : Below G0 w (w5.drew.setCell ⟨ga, b, none⟩ (.int .i64 (max p (min q r)))) := B6.drew
                have cabd : w5.drew.cell? ⟨ga, b, none⟩ = some (.int .i64 p) := cab
                have fabd : w5.drew.frozen? ⟨ga, b, none⟩ = false := fab
                clear hset hst hp hq hr hga hgk hT3 T6 B6 fab
                go_wp2_with fail
                refine region_quiet_tail 31 (by kernel_rfl) (by kernel_rfl) ?_
                simp only [List.take_succ_cons, List.take_zero, List.drop_succ_cons, List.drop_zero]
                repeat (first | go_big_quiet_step (fail) | (go_big_quiet_want; go_big_quiet_op; refine ⟨_, weaker_any _ _ _, ?_⟩; go_big_quiet_on) | (go_big_quiet_want; go_big_quiet_op; refine ⟨_, stronger_any _ _ _, ?_⟩; go_big_quiet_on))
                refine wpQuiet_nil ?_
                generalize w5.drew = w6 at T7 B7 cabd fabd ⊢
                go_wp2
                go_roundw
                case rel => exact ⟨b + 1, by omega, by go_num, T7, B7⟩
                case measure => simp [intOf]; omega
            · obtain rfl : b = n := by omega
              have T6 : Hid (Tb 3 30 w5 G0 (some ⟨go, 0, none⟩) b b b b G' (fun _ => b) (fun i j => .int .i64 (curI P k (a + 1) 0 i j))) :=
                hT3.out.congr (fun i j _ hj => by rw [curI_next hj])
              go_wp2
              go_roundw
              case rel => exact ⟨a + 1, by omega, by go_num, T6, hB⟩
              case measure => simp [intOf]; omega
        · obtain rfl : a = n := by omega
          have T6 : Hid (Tb 3 30 wr G0 (some ⟨go, 0, none⟩) a a a a G' (fun _ => a) (fun i j => .int .i64 (pathTo M (k + 1) i j))) :=
            hT2.out.congr (fun i j hi _ => by rw [curI_end hi, HP.out])
          go_wp2
          go_roundw
          case rel => exact ⟨k + 1, by omega, by go_num, T6, hB⟩
          case measure => simp [intOf]; omega
    · obtain rfl : k = n := by omega
      go_wp2
      go_ret
      exact ⟨_, G', rfl, hG.symm ▸ hT1.out, HGG.out, hG.symm ▸ hB⟩

end Go.Proofs.Ytaaamidkfhabnaa
