/-
  laws.FnPartiesScale returns true for every code. No condition.
-/
import Derived.Test.YtbcemgmfkddafaaGrp1
import Derived.Test.YtbcemgmfkddafaaGrp8
import Derived.Test.YtbcemgmfkddafaaGrp14
import Derived.Test.YtbcemgmfkddafaaMostL
import Derived.Test.YtbcemgmfkddafaaDrawGa
import Derived.Test.YtbcemgmfkddafaaGrp6
namespace Go.Proofs.Ytbcemgmfkddafaa.fnPartiesScale
open Go.RowKit
set_option linter.unusedVariables false


set_option maxRecDepth 100000 in
set_option maxHeartbeats 2000000 in
/-- The law's walk: it returns true, and writes nothing that was there. -/
theorem walk (a0 : Option Addr) (len0 cap0 : Nat) (z0 : List Int) (w : World) (w0 : IsRow .u8 w a0 len0 cap0 z0) :
    Calls Try.prog 10 #[.slice a0 len0 cap0] w fun e w' => e = .returned (.bool true) ∧ Below w.heap.size w w' := by
  by_cases hl : len0 ≤ 1048576
  · skip
    have hcap := w0.cap
    have HB := Lib.hid w0.bytes; clear w0
    go_enter Try.func10, Try.ntmps10
    go_wp2_with fail
    refine (drawPar_any a0 len0 cap0 _ _ HB.out hcap (by omega)).mono ?_
    rintro e w1 ⟨zs, av, cv, rfl, ho, hz5, hb⟩
    have B := Lib.hid hb
    obtain ⟨n, hn⟩ : ∃ n, zs.length = n := ⟨_, rfl⟩
    rw [hn] at ho hz5 ⊢
    have I := Lib.hid (IsInts.of_owned ho (by omega))
    have Hn := Lib.hid hn
    clear hb HB ho hn
    obtain ⟨v, hv⟩ : ∃ v, voteB zs = v := ⟨_, rfl⟩
    obtain ⟨x, y, hxy⟩ : ∃ x y, parR zs = (x, y) := ⟨_, _, rfl⟩
    have HV := Lib.hid hv
    have HX := Lib.hid hxy
    clear hv hxy
    have hgd := run_guardF
    have hq1 := run_neqF x y x y false (by rw [eqF_self]; rfl)
    have hq2 := run_eqF x y x y true (eqF_self x y)
    have hne : (v != v) = false := by cases v <;> rfl
    have heq : (v == v) = true := by cases v <;> rfl
    go_wp2_with fail
    refine (implPar_as _ n cv zs x y v _ I.out HV.out HX.out).mono ?_
    rintro e w2 ⟨rfl, hb⟩
    have I := Lib.hid (I.out.below hb)
    have B := Lib.hid (B.out.trans (hb.mono B.out.size))
    clear hb
    go_wp2_with fail
    have BA := Lib.hid ((Below.refl _ w2).alloc (Nat.le_refl _) (.cells #[.int .i64 x, .int .i64 y] 38))
    have T := Lib.hid (Two.new w2 x y 38)
    obtain ⟨wa, hwa⟩ : ∃ wa, w2.alloc (.cells #[.int .i64 x, .int .i64 y] 38) = wa := ⟨_, rfl⟩
    obtain ⟨P4, hP4⟩ : ∃ P4, w2.heap.size = P4 := ⟨_, rfl⟩
    have I := Lib.hid (I.out.below (hwa ▸ BA.out))
    have B := Lib.hid (B.out.trans ((hwa ▸ BA.out : Below w2.heap.size w2 wa).mono B.out.size))
    rw [hwa, hP4] at T
    rw [hwa]
    (try rw [hP4])
    clear BA hwa hP4
    refine (specPar_as _ n cv zs x y v _ I.out HV.out HX.out).mono ?_
    rintro e w3 ⟨rfl, hb⟩
    have I := Lib.hid (I.out.below hb)
    have T := Lib.hid (T.out.below hb)
    have B := Lib.hid (B.out.trans (hb.mono B.out.size))
    clear hb
    cases v
    · obtain ⟨l0, c0, d0, -, -⟩ := T.out
      go_wp2
      go_ret
      exact ⟨rfl, below_more B.out (.cells #[.int .i64 x, .int .i64 y] 38)⟩
    have hpb := par_bound HV.out
    have hlaw := p103_law HV.out
    have HF : Hid (partF zs = (x, y)) := by rw [Hid, ← HX.out, parR, if_pos HV.out]
    rw [HF.out] at hpb hlaw
    have hx1 : 1 ≤ x ∧ x ≤ 245025 := hpb.1
    have hy1 : 1 ≤ y ∧ y ≤ 49005 := hpb.2
    obtain ⟨⟨xa, xb, xc⟩, xd⟩ := (voteB_iff zs).1 HV.out
    rw [Hn.out] at xa xb xc
    have XV := Lib.hid xa
    clear hpb xa xd
    obtain ⟨m, hm⟩ : ∃ m, mstI zs = m := ⟨_, rfl⟩
    have HM := Lib.hid hm
    obtain ⟨v2, hv2⟩ : ∃ v2, voteB (dblL zs) = v2 := ⟨_, rfl⟩
    obtain ⟨x2, y2, hxy2⟩ : ∃ x y, parR (dblL zs) = (x, y) := ⟨_, _, rfl⟩
    obtain ⟨v3, hv3⟩ : ∃ v3, voteB (zs ++ [0]) = v3 := ⟨_, rfl⟩
    obtain ⟨x3, y3, hxy3⟩ : ∃ x y, parR (zs ++ [0]) = (x, y) := ⟨_, _, rfl⟩
    have HDB : Hid (m ≤ 49 → v2 = true ∧ (x2, y2) = (x, y)) := fun h => by
      obtain ⟨h1, h2⟩ := p104_double HV.out (by rw [hm]; exact h)
      refine ⟨by rw [← hv2]; exact h1, ?_⟩
      rw [← hxy2, parR, if_pos h1, h2]; exact HF.out
    have HMO : Hid (n ≠ 5 → v3 = true ∧ (x3, y3) = (x, y)) := fun h => by
      obtain ⟨h1, h2⟩ := p104_more HV.out (by rw [Hn.out]; exact h)
      refine ⟨by rw [← hv3]; exact h1, ?_⟩
      rw [← hxy3, parR, if_pos h1, h2]; exact HF.out
    have V2 := Lib.hid hv2
    have V3 := Lib.hid hv3
    have F2 := Lib.hid hxy2
    have F3 := Lib.hid hxy3
    have HDL : Hid (∀ k, k < n → (dblL zs).take (k + 1) = (dblL zs).take k ++ [2 * zs[k]?.getD 0]) := fun k hk => by
      rw [take_next (by rw [dblL_length, Hn.out]; exact hk), dblL_at (by rw [Hn.out]; exact hk)]
    clear hm hlaw hv2 hv3 hxy2 hxy3
    obtain ⟨i0, hi0, hz0, hz1, hz2⟩ := info_parts int_info
    obtain ⟨vb, vo, rfl, hvb2, hvc⟩ := I.out.2.2.2 (by omega)
    have HVC := Lib.hid hvc
    clear hvc
    obtain ⟨l0, c0, d0, -, -⟩ := T.out
    have BW0 : Below w3.heap.size w3 (w3.alloc (.cells #[.int .i64 x, .int .i64 y] 38)) := (Below.refl _ w3).alloc (Nat.le_refl _) _
    have hE0 := Lib.hid (World.ownsRow_lit (base := w3.heap.size) (e := 3) (size := 1) (w3.alloc (.cells #[.int .i64 x, .int .i64 y] 38)) #[] 0 (by simp) (by unfold maxLen; omega) rfl)
    rw [show (w3.alloc (.cells #[.int .i64 x, .int .i64 y] 38)).heap.size = w3.heap.size + 1 by simp] at hE0
    have hBE : Hid (Below w3.heap.size w3 ((w3.alloc (.cells #[.int .i64 x, .int .i64 y] 38)).alloc (.cells #[] 3))) := BW0.alloc (by simp) _
    go_wp2
    clear l0 c0 d0 BW0
    go_loopw [8, 9] (fun ov iv wr => ∃ (k : Nat) (a3 : Option Addr) (c3 : Nat), k ≤ n ∧ iv = .int .i64 (k : Int) ∧ ov = .slice a3 k c3 ∧ Hid (wr.ownsRow w3.heap.size 3 1 (.slice a3 k c3) k (((dblL zs).take k).map (Value.int .i64))) ∧ Hid (Below w3.heap.size w3 wr)) (fun _ iv _ => n - (intOf iv).toNat)
    case atStart => exact ⟨0, _, _, Nat.zero_le _, rfl, rfl, hE0, hBE⟩
    case round =>
      clear hE0 hBE
      obtain ⟨k, a3, c3, hk, rfl, rfl, ho3, hB3⟩ := hrel
      by_cases hlt : k < n
      · have hii : (k : Int) < (n : Int) := by omega
        have ci := (hB3.out.cell (p := ⟨vb, vo + k, none⟩) hvb2).trans (HVC.out k hlt)
        have hzb := toB_at XV.out hlt
        have HAP := Lib.hid (HDL.out k hlt)
        obtain ⟨z, hz⟩ : ∃ z, zs[k]?.getD 0 = z := ⟨_, rfl⟩
        rw [hz] at ci hzb HAP
        clear hz
        have hw1 : IntKind.i64.wrap (2 * z) = 2 * z := IntWalk.i64_in _ (by omega)
        have hsz := hB3.out.size
        have M1 : k + 1 ≤ maxLen := by unfold maxLen; omega
        have N1 : (k + 1) * 8 ≤ 140737488355328 := by omega
        have S1 : w3.heap.size ≤ (wr.alloc (.cells #[.int .i64 (2 * z)] 3)).heap.size := by simp; omega
        go_wp2_with (at_builtin; refine wpList_append_own _ rfl _ _ 23 rfl w3.heap.size 3 i0 (.int .i64 0) 1 8 Try.underlying23 hi0 hz0 hz1 hz2 rfl (by decide) _ _ _ rfl (ho3.out.alloc _) ⟨wr.heap.size, 0, none⟩ 1 1 [.int .i64 (2 * z)] rfl rfl (cell_one_new _ _ _) (by simp [Value.oneCell']) M1 N1 S1 ?_; intro v' w4' hown' hgrow _; obtain ⟨a4, cap4, rfl⟩ := owns_slice hown')
        have hrow : ∀ j, (Value.slice a3 k c3).ownBlock = some j → w3.heap.size ≤ j := fun j ej => (ho3.out.lt j ej).1
        have O4 : Hid (w4'.ownsRow w3.heap.size 3 1 (.slice a4 (k + 1) cap4) (k + 1) (((dblL zs).take (k + 1)).map (Value.int .i64))) := by
          unfold Hid; rw [HAP.out, List.map_append]; exact hown'
        have B4 : Hid (Below w3.heap.size w3 w4') := (hB3.out.alloc hsz _).grown hgrow (by simp; omega) hrow
        clear hown' hgrow hrow M1 N1 S1
        go_wp2
        go_roundw
        case rel => exact ⟨k + 1, a4, cap4, by omega, by go_num, rfl, O4, B4⟩
        case measure => simp [intOf]; omega
      · obtain rfl : k = n := by omega
        have hdl : (dblL zs).take k = dblL zs := List.take_of_length_le (by rw [dblL_length, Hn.out]; exact Nat.le_refl _)
        rw [hdl] at ho3
        have IX := Lib.hid (IsInts.of_owned ho3.out (by omega))
        have I := Lib.hid (I.out.below hB3.out)
        have T := Lib.hid (T.out.below hB3.out)
        have B := Lib.hid (B.out.trans (hB3.out.mono B.out.size))
        clear hdl ho3 hB3
        go_wp2_with fail
        refine (implPar_as _ k c3 (dblL zs) x2 y2 v2 _ IX.out V2.out F2.out).mono ?_
        rintro e w5 ⟨rfl, hb⟩
        have I := Lib.hid (I.out.below hb)
        have T := Lib.hid (T.out.below hb)
        have B := Lib.hid (B.out.trans (hb.mono B.out.size))
        clear hb IX
        have hvb5 : vb < w5.heap.size := by obtain ⟨b', o', e', h', -⟩ := I.out.2.2.2 (by omega); injection e' with e'; injection e' with e' _ _; omega
        obtain ⟨wb, hwb⟩ : ∃ wb, w5.alloc (.cells #[.int .i64 x2, .int .i64 y2] 38) = wb := ⟨_, rfl⟩
        have BA : Hid (Below w5.heap.size w5 wb) := by rw [Hid, ← hwb]; exact (Below.refl _ w5).alloc (Nat.le_refl _) _
        obtain ⟨P5, hP5⟩ : ∃ P5, w5.heap.size = P5 := ⟨_, rfl⟩
        have T5 : Hid (Two wb P5 x2 y2) := by rw [Hid, ← hwb, ← hP5]; exact Two.new w5 x2 y2 38
        have I := Lib.hid (I.out.below BA.out)
        have T := Lib.hid (T.out.below BA.out)
        have B := Lib.hid (B.out.trans (BA.out.mono B.out.size))
        have hsb := BA.out.size
        have hE1 := Lib.hid (World.ownsRow_lit (base := wb.heap.size) (e := 3) (size := 1) wb #[] 0 (Nat.le_refl _) (by unfold maxLen; omega) rfl)
        have hBE1 : Hid (Below wb.heap.size wb (wb.alloc (.cells #[] 3))) := (Below.refl _ _).alloc (Nat.le_refl _) _
        have hvbb : vb < wb.heap.size := by omega
        have PC : Hid (∀ j u, (zs.map (Value.int .i64))[j]? = some u → (wb.alloc (.cells #[] 3)).cell? ((⟨vb, vo, none⟩ : Addr).add j) = some u) := by
          have hcc : ∀ j, j < k → (wb.alloc (.cells #[] 3)).cell? ⟨vb, vo + j, none⟩ = some (.int .i64 (zs[j]?.getD 0)) := fun j hj => by
            obtain ⟨b', o', e', h', hc'⟩ := I.out.2.2.2 (by omega)
            injection e' with e'
            injection e' with e1 e2 _
            subst e1
            subst e2
            exact (hBE1.out.cell (p := ⟨vb, vo + j, none⟩) h').trans (hc' j hj)
          have h := piece_rest Hn.out hcc 0 vo (Nat.zero_le _) rfl
          rw [List.drop_zero] at h
          exact h
        have LN : (zs.map (Value.int .i64)).length = k * 1 := by rw [List.length_map, Hn.out, Nat.mul_one]
        have M2 : 0 + k ≤ maxLen := by unfold maxLen; omega
        have N2 : (0 + k) * 8 ≤ 140737488355328 := by omega
        have S2 : wb.heap.size ≤ (wb.alloc (.cells #[] 3)).heap.size := hBE1.out.size
        have hsz1 : wb.heap.size = P5 + 1 := by rw [← hwb, ← hP5]; simp
        rw [hsz1] at hE1
        have S3 : P5 + 1 ≤ (wb.alloc (.cells #[] 3)).heap.size := by omega
        go_wp2_with (first
          | (at_builtin; refine wpList_append_own _ rfl _ _ 23 rfl (P5 + 1) 3 i0 (.int .i64 0) 1 8 Try.underlying23 hi0 hz0 hz1 hz2 rfl (by decide) _ _ _ rfl (O6.out.alloc _) ⟨w6.heap.size, 0, none⟩ 1 1 [.int .i64 0] rfl rfl (cell_one_new _ _ _) (by simp [Value.oneCell']) (by unfold maxLen; omega) (by omega) (by have := B6.out.size; simp; omega) ?_; intro v' w8 hown8 hgrow8 _; obtain ⟨a8, c8, rfl⟩ := owns_slice hown8; have O8 := Lib.hid hown8; have B8 : Hid (Below wb.heap.size wb w8) := (B6.out.alloc B6.out.size _).grown hgrow8 (by have := B6.out.size; simp; omega) (fun j ej => by have := (O6.out.lt j ej).1; omega); clear hown8 hgrow8)
          | (at_builtin; (try rw [hwb]); refine wpList_append_own _ rfl _ _ 23 rfl (P5 + 1) 3 i0 (.int .i64 0) 1 8 Try.underlying23 hi0 hz0 hz1 hz2 rfl (by decide) _ _ _ rfl hE1.out ⟨vb, vo, none⟩ k cv (zs.map (Value.int .i64)) rfl LN PC.out (ints_one _) M2 N2 S3 ?_; intro v' w6 hown6 hgrow6 _; simp only [Nat.zero_add, List.nil_append] at hown6; obtain ⟨a6, c6, rfl⟩ := owns_slice hown6; have O6 := Lib.hid hown6; have B6 : Hid (Below wb.heap.size wb w6) := hBE1.out.grown hgrow6 S2 (fun j ej => by have := (hE1.out.lt j ej).1; omega); clear hown6 hgrow6))
        have I8 := Lib.hid (joined (A := zs) (B := [0]) O8.out (by omega))
        have I := Lib.hid (I.out.below B8.out)
        have T := Lib.hid (T.out.below B8.out)
        have T5 := Lib.hid (T5.out.below B8.out)
        have B := Lib.hid (B.out.trans (B8.out.mono B.out.size))
        clear O6 O8 B6 B8 hE1 hBE1 PC BA
        (try (go_wp2_with fail))
        refine (implPar_as _ (k + 1) c8 (zs ++ [0]) x3 y3 v3 _ I8.out V3.out F3.out).mono ?_
        rintro e w9 ⟨rfl, hb⟩
        have I := Lib.hid (I.out.below hb)
        have T := Lib.hid (T.out.below hb)
        have T5 := Lib.hid (T5.out.below hb)
        have B := Lib.hid (B.out.trans (hb.mono B.out.size))
        clear hb I8
        obtain ⟨wc, hwc⟩ : ∃ wc, w9.alloc (.cells #[.int .i64 x3, .int .i64 y3] 38) = wc := ⟨_, rfl⟩
        have BA : Hid (Below w9.heap.size w9 wc) := by rw [Hid, ← hwc]; exact (Below.refl _ w9).alloc (Nat.le_refl _) _
        obtain ⟨P9, hP9⟩ : ∃ P9, w9.heap.size = P9 := ⟨_, rfl⟩
        have T9 : Hid (Two wc P9 x3 y3) := by rw [Hid, ← hwc, ← hP9]; exact Two.new w9 x3 y3 38
        have I := Lib.hid (I.out.below BA.out)
        have T := Lib.hid (T.out.below BA.out)
        have T5 := Lib.hid (T5.out.below BA.out)
        have B := Lib.hid (B.out.trans (BA.out.mono B.out.size))
        go_wp2_with fail
        (try rw [hwc])
        (try rw [hP9])
        refine (lawMost_as _ k cv zs m _ I.out HM.out).mono ?_
        rintro e w10 ⟨rfl, rfl⟩
        obtain ⟨l0, c0, d0, -, -⟩ := T.out
        obtain ⟨l5, c5, d5, -, -⟩ := T5.out
        obtain ⟨l9, c9, d9, -, -⟩ := T9.out
        clear hwb hwc hP5 hP9 BA
        by_cases h49 : m ≤ 49
        · have d49 : decide (49 < m) = false := decide_eq_false (by omega)
          obtain ⟨rfl, e2⟩ := HDB.out h49
          injection e2 with e2 e2'
          subst e2
          subst e2'
          by_cases h5 : k = 5
          · have d5 : ((k : Int) == 5) = true := by simp; omega
            clear h49 h5
            go_wp2
            go_ret
            exact ⟨rfl, B.out⟩
          · have d5 : ((k : Int) == 5) = false := by simp; omega
            obtain ⟨rfl, e3⟩ := HMO.out h5
            injection e3 with e3 e3'
            subst e3
            subst e3'
            clear h49 h5
            go_wp2
            go_ret
            exact ⟨rfl, B.out⟩
        · have d49 : decide (49 < m) = true := decide_eq_true (by omega)
          by_cases h5 : k = 5
          · have d5 : ((k : Int) == 5) = true := by simp; omega
            clear h49 h5
            go_wp2
            go_ret
            exact ⟨rfl, B.out⟩
          · have d5 : ((k : Int) == 5) = false := by simp; omega
            obtain ⟨rfl, e3⟩ := HMO.out h5
            injection e3 with e3 e3'
            subst e3
            subst e3'
            clear h49 h5
            go_wp2
            go_ret
            exact ⟨rfl, B.out⟩
  · clear w0
    go_enter Try.func10, Try.ntmps10
    go_wp2
    go_ret
    exact ⟨rfl, Below.refl _ _⟩

end Go.Proofs.Ytbcemgmfkddafaa.fnPartiesScale
