/-
  laws.FnSeatsScale returns true for every code. No condition.
-/
import Derived.Test.YtgcocdacofpglaaGrp1
import Derived.Test.YtgcocdacofpglaaSeatY
import Derived.Test.YtgcocdacofpglaaDrawSd
namespace Go.Proofs.Ytgcocdacofpglaa.fnSeatsScale
open Go.RowKit
set_option linter.unusedVariables false

attribute [local go_sem] Oper.semAt_some
theorem dbl_take {zs : List Int} {k : Nat} (h : k < zs.length) : ((dblL zs).take k) ++ [2 * zs[k]?.getD 0] = (dblL zs).take (k + 1) := by
  have h1 : k < (dblL zs).length := by rw [dblL_length]; exact h
  rw [List.take_succ_eq_append_getElem h1, ← dblL_at, List.getElem?_eq_getElem h1]; rfl
set_option maxRecDepth 100000 in
set_option maxHeartbeats 2000000 in
/-- The law's walk: it returns true, and writes nothing that was there. -/
theorem walk (a0 : Option Addr) (len0 cap0 : Nat) (z0 : List Int) (w : World) (w0 : IsRow .u8 w a0 len0 cap0 z0) :
    Calls Try.prog 6 #[.slice a0 len0 cap0] w fun e w' => e = .returned (.bool true) ∧ Below w.heap.size w w' := by
  by_cases hl : len0 ≤ 1048576
  · skip
    have hcap := w0.cap
    have HB := Lib.hid w0.bytes; clear w0
    go_enter Try.func6, Try.ntmps6
    go_wp2_with fail
    refine (drawSeats_any a0 len0 cap0 _ _ HB.out hcap (by omega)).mono ?_
    rintro e w1 ⟨zs, av, cv, s, m, lots, al, cl, rfl, ho, hz5, hol, hl5, hs, hm, hb⟩
    have B := Lib.hid hb
    obtain ⟨n, hn⟩ : ∃ n, zs.length = n := ⟨_, rfl⟩
    rw [hn] at ho hz5 ⊢
    have I := Lib.hid (IsInts.of_owned ho (by omega))
    have Hn := Lib.hid hn
    obtain ⟨nl, hnl⟩ : ∃ nl, lots.length = nl := ⟨_, rfl⟩
    rw [hnl] at hol hl5 ⊢
    have J := Lib.hid (IsInts.of_owned hol (by omega))
    have Hnl := Lib.hid hnl
    clear hb HB ho hol hn hnl
    obtain ⟨v, hv⟩ : ∃ v, okD zs s m lots = v := ⟨_, rfl⟩
    obtain ⟨l, hL⟩ : ∃ l, divL zs s m lots = l := ⟨_, rfl⟩
    have hx5 : l.length ≤ 5 := by rw [← hL]; exact div_short5 (by rw [Hn.out]; exact hz5) _ _ _
    have HV := Lib.hid hv
    have HL := Lib.hid hL
    clear hv hL
    have hne : (v != v) = false := by cases v <;> rfl
    have heq : (v == v) = true := by cases v <;> rfl
    go_wp2_with fail
    refine (implSeats_as _ n cv zs s m _ nl cl lots l v _ I.out J.out HV.out HL.out).mono ?_
    rintro e w2 ⟨a1, c1, rfl, ho, hb⟩
    have I := Lib.hid (I.out.below hb)
    have J := Lib.hid (J.out.below hb)
    have I1 := Lib.hid (IsInts.of_owned ho (by omega))
    have B := Lib.hid (B.out.trans (hb.mono B.out.size))
    clear hb ho
    go_wp2_with fail
    refine (specSeats_as _ n cv zs s m _ nl cl lots l v _ I.out J.out HV.out HL.out).mono ?_
    rintro e w3 ⟨a2, c2, rfl, ho, hb⟩
    have I := Lib.hid (I.out.below hb)
    have J := Lib.hid (J.out.below hb)
    have I1 := Lib.hid (I1.out.below hb)
    have I2 := Lib.hid (IsInts.of_owned ho (by omega))
    have B := Lib.hid (B.out.trans (hb.mono B.out.size))
    clear hb ho
    go_wp2_with fail
    refine (sameInts_it _ _ _ l _ _ _ I1.out I2.out).mono ?_
    rintro e w4 ⟨rfl, hd⟩
    have hb := hd.below w3.heap.size
    have I := Lib.hid (I.out.below hb)
    have J := Lib.hid (J.out.below hb)
    have I1 := Lib.hid (I1.out.below hb)
    have I2 := Lib.hid (I2.out.below hb)
    have B := Lib.hid (B.out.trans (hb.mono B.out.size))
    clear hb hd
    cases v
    · skip
      go_wp2_with fail
      refine (sameInts_it _ _ _ l _ _ _ I1.out I2.out).mono ?_
      rintro e w5 ⟨rfl, hd⟩
      have hb := hd.below w4.heap.size
      have I := Lib.hid (I.out.below hb)
      have J := Lib.hid (J.out.below hb)
      have I1 := Lib.hid (I1.out.below hb)
      have I2 := Lib.hid (I2.out.below hb)
      have B := Lib.hid (B.out.trans (hb.mono B.out.size))
      clear hb hd
      go_wp2
      go_ret
      exact ⟨rfl, B.out⟩
    obtain ⟨hvo, hs20, hme, hlo, hln⟩ := (okD_iff _ _ _ _).1 HV.out
    obtain ⟨S, rfl⟩ := Int.eq_ofNat_of_zero_le hs20.1
    have hS : S ≤ 20 := by omega
    have HR : Hid (l = seatsL zs m lots S) := by rw [Hid, ← HL.out, divL, if_pos HV.out, Int.toNat_natCast]
    have hll : l.length = n := by rw [HR.out, seatsL_length]; exact Hn.out
    obtain rfl : nl = n := by rw [← Hnl.out, hln]; exact Hn.out
    have VO := Lib.hid hvo
    have ME := Lib.hid hme
    have LO := Lib.hid hlo
    have LN := Lib.hid hln
    have HLL := Lib.hid hll
    have hn1 : 1 ≤ nl ∧ nl ≤ 5 := by have := (voteB_iff zs).1 VO.out; rw [Hn.out] at this; exact this.1.2
    have XV : Hid (toB zs 99 nl = true) := by have := ((voteB_iff zs).1 VO.out).1.1; rw [Hn.out] at this; exact this
    rw [hll] at I1 I2 ⊢
    clear hvo hme hlo hln hll
    obtain ⟨i0, hi0, hz0, hz1, hz2⟩ := info_parts int_info
    have hE0 := Lib.hid (World.ownsRow_lit (base := w4.heap.size) (e := 3) (size := 1) w4 #[] 0 (Nat.le_refl _) (by unfold maxLen; omega) rfl)
    have hBE : Below w4.heap.size w4 (w4.alloc (.cells #[] 3)) := (Below.refl _ _).alloc (Nat.le_refl _) _
    have HDL : Hid (∀ k, k < nl → ((dblL zs).take k) ++ [2 * zs[k]?.getD 0] = (dblL zs).take (k + 1)) := fun k hk => dbl_take (by rw [Hn.out]; exact hk)
    go_wp2
    go_loopw [11, 12] (fun ov iv wr => ∃ (k : Nat) (a3 : Option Addr) (c3 : Nat), k ≤ nl ∧ iv = .int .i64 (k : Int) ∧ ov = .slice a3 k c3 ∧ Hid (∀ i, i < k → zs[i]?.getD 0 ≤ 49) ∧ Hid (wr.ownsRow w4.heap.size 3 1 (.slice a3 k c3) k (((dblL zs).take k).map (Value.int .i64))) ∧ Hid (Below w4.heap.size w4 wr)) (fun _ iv _ => nl - (intOf iv).toNat)
    case atStart => exact ⟨0, _, _, Nat.zero_le _, rfl, rfl, (fun i h => absurd h (Nat.not_lt_zero _)), hE0.out, hBE⟩
    case round =>
      clear hE0 hBE
      obtain ⟨k, a3, c3, hk, rfl, rfl, h49, ho3, hB3⟩ := hrel
      by_cases hlt : k < nl
      · obtain ⟨vb, vo, hve, hvb, hvc⟩ := I.out.2.2.2 (by omega)
        subst hve
        have hii : (k : Int) < (nl : Int) := by omega
        have ci := (hB3.out.cell (p := ⟨vb, vo + k, none⟩) hvb).trans (hvc k hlt)
        have hzb := toB_at XV.out hlt
        have hap := HDL.out k hlt
        obtain ⟨z, hz⟩ : ∃ z, zs[k]?.getD 0 = z := ⟨_, rfl⟩
        rw [hz] at ci hzb hap
        have HAP := Lib.hid hap
        have HZ := Lib.hid hz
        clear hap hz hvc
        by_cases hbig : 49 < z
        · have hg : decide ((49 : Int) < z) = true := decide_eq_true hbig
          go_wp2
          go_ret
          exact ⟨rfl, B.out.trans (hB3.out.mono B.out.size)⟩
        · have hg : decide ((49 : Int) < z) = false := decide_eq_false hbig
          have hw1 : IntKind.i64.wrap (2 * z) = 2 * z := IntWalk.i64_in _ (by omega)
          have hsz := hB3.out.size
          have H492 : Hid (∀ i, i < k + 1 → zs[i]?.getD 0 ≤ 49) := fun i hi => by
            by_cases e : i = k
            · subst e; rw [HZ.out]; omega
            · exact h49.out i (by omega)
          have M1 : k + 1 ≤ maxLen := by unfold maxLen; omega
          have N1 : (k + 1) * 8 ≤ 140737488355328 := by omega
          have S1 : w4.heap.size ≤ (wr.alloc (.cells #[.int .i64 (2 * z)] 3)).heap.size := by simp; omega
          go_wp2_with (at_builtin; refine wpList_append_own _ rfl _ _ 23 rfl w4.heap.size 3 i0 (.int .i64 0) 1 8 Try.underlying23 hi0 hz0 hz1 hz2 rfl (by decide) _ _ _ rfl (ho3.out.alloc _) ⟨wr.heap.size, 0, none⟩ 1 1 [.int .i64 (2 * z)] rfl rfl (cell_one_new _ _ _) (by simp [Value.oneCell']) M1 N1 S1 ?_; intro v' w4' hown' hgrow _; obtain ⟨a4, cap4, rfl⟩ := owns_slice hown')
          have hrow : ∀ j, (Value.slice a3 k c3).ownBlock = some j → w4.heap.size ≤ j := fun j ej => (ho3.out.lt j ej).1
          have O4 : Hid (w4'.ownsRow w4.heap.size 3 1 (.slice a4 (k + 1) cap4) (k + 1) (((dblL zs).take (k + 1)).map (Value.int .i64))) := by
            unfold Hid; rw [← HAP.out, List.map_append]; exact hown'
          have B4 : Hid (Below w4.heap.size w4 w4') := (hB3.out.alloc hsz _).grown hgrow (by simp; omega) hrow
          clear hown' hgrow hrow M1 N1 S1
          go_wp2
          go_roundw
          case rel => exact ⟨k + 1, a4, cap4, by omega, by go_num, rfl, H492.out, O4.out, B4.out⟩
          case measure => simp [intOf]; omega
      · obtain rfl : k = nl := by omega
        have hdl : (dblL zs).take k = dblL zs := List.take_of_length_le (by rw [dblL_length, Hn.out]; exact Nat.le_refl _)
        rw [hdl] at ho3
        have OKX : Hid (okD (dblL zs) (S : Int) m lots = true) := (okD_iff _ _ _ _).2 ⟨p85_vote VO.out (fun i hi => h49.out i (by rw [← Hn.out]; exact hi)), ⟨by omega, by omega⟩, ME.out, LO.out, by rw [dblL_length]; exact LN.out⟩
        have HXX : Hid (divL (dblL zs) (S : Int) m lots = l) := by rw [Hid, divL, if_pos OKX.out, Int.toNat_natCast, p85_seats _ _ (lots_ne LO.out)]; exact HR.out.symm
        have IX := Lib.hid (IsInts.of_owned ho3.out (by omega))
        have IJ := Lib.hid (J.out.below hB3.out)
        have I1x := Lib.hid (I1.out.below hB3.out)
        have Bx := Lib.hid (B.out.trans (hB3.out.mono B.out.size))
        clear hdl ho3 hB3
        go_wp2_with fail
        refine (implSeats_as _ k _ (dblL zs) (S : Int) m _ k cl lots l true _ IX.out IJ.out OKX.out HXX.out).mono ?_
        rintro e w8 ⟨a8, c8, rfl, ho, hb⟩
        have hll := HLL.out
        rw [hll] at ho ⊢
        have I8 := Lib.hid (IsInts.of_owned ho (by omega))
        have I1y := Lib.hid (I1x.out.below hb)
        have By := Lib.hid (Bx.out.trans (hb.mono Bx.out.size))
        clear ho hb
        go_wp2_with fail
        refine (sameInts_it _ _ _ l _ _ _ I8.out I1y.out).mono ?_
        rintro e w9 ⟨rfl, hd⟩
        go_wp2
        go_ret
        exact ⟨rfl, By.out.trans (hd.below _)⟩
  · clear w0
    go_enter Try.func6, Try.ntmps6
    go_wp2
    go_ret
    exact ⟨rfl, Below.refl _ _⟩

end Go.Proofs.Ytgcocdacofpglaa.fnSeatsScale
