/-
  laws.FnHurdleMore returns true for every code. No condition.
-/
import Derived.Test.YtbcemgmfkddafaaGrp1
import Derived.Test.YtbcemgmfkddafaaGrp8
import Derived.Test.YtbcemgmfkddafaaMeasH
import Derived.Test.YtbcemgmfkddafaaDrawGa
namespace Go.Proofs.Ytbcemgmfkddafaa.fnHurdleMore
open Go.RowKit
set_option linter.unusedVariables false


set_option maxRecDepth 100000 in
set_option maxHeartbeats 2000000 in
/-- The law's walk: it returns true, and writes nothing that was there. -/
theorem walk (a0 : Option Addr) (len0 cap0 : Nat) (z0 : List Int) (w : World) (w0 : IsRow .u8 w a0 len0 cap0 z0) :
    Calls Try.prog 8 #[.slice a0 len0 cap0] w fun e w' => e = .returned (.bool true) ∧ Below w.heap.size w w' := by
  by_cases hl : len0 ≤ 1048576
  · skip
    have hcap := w0.cap
    have HB := Lib.hid w0.bytes; clear w0
    go_enter Try.func8, Try.ntmps8
    go_wp2_with fail
    refine (drawHur_any a0 len0 cap0 _ _ HB.out hcap (by omega)).mono ?_
    rintro e w1 ⟨zs, av, cv, p, rfl, ho, hz5, hpb, hb⟩
    have B := Lib.hid hb
    obtain ⟨n, hn⟩ : ∃ n, zs.length = n := ⟨_, rfl⟩
    rw [hn] at ho hz5 ⊢
    have I := Lib.hid (IsInts.of_owned ho (by omega))
    have Hn := Lib.hid hn
    clear hb HB ho hn
    obtain ⟨v, hv⟩ : ∃ v, okH zs p = v := ⟨_, rfl⟩
    obtain ⟨l, hL⟩ : ∃ l, hurR zs p = l := ⟨_, rfl⟩
    have hx5 : l.length ≤ 5 := by rw [← hL]; exact hurR_five _ _
    have HV := Lib.hid hv
    have HL := Lib.hid hL
    clear hv hL
    have hne : (v != v) = false := by cases v <;> rfl
    have heq : (v == v) = true := by cases v <;> rfl
    go_wp2_with fail
    refine (implHur_as _ n cv zs p l v _ I.out HV.out HL.out).mono ?_
    rintro e w2 ⟨a1, c1, rfl, ho, hb⟩
    have I := Lib.hid (I.out.below hb)
    have I1 := Lib.hid (IsInts.of_owned ho (by omega))
    have B := Lib.hid (B.out.trans (hb.mono B.out.size))
    clear hb ho
    go_wp2_with fail
    refine (specHur_as _ n cv zs p l v _ I.out HV.out HL.out).mono ?_
    rintro e w3 ⟨a2, c2, rfl, ho, hb⟩
    have I := Lib.hid (I.out.below hb)
    have I1 := Lib.hid (I1.out.below hb)
    have I2 := Lib.hid (IsInts.of_owned ho (by omega))
    have B := Lib.hid (B.out.trans (hb.mono B.out.size))
    clear hb ho
    go_wp2_with fail
    refine (sameInts_it2 _ _ _ l _ _ _ I1.out I2.out).mono ?_
    rintro e w4 ⟨rfl, hd⟩
    have hb := hd.below w3.heap.size
    have I := Lib.hid (I.out.below hb)
    have I1 := Lib.hid (I1.out.below hb)
    have I2 := Lib.hid (I2.out.below hb)
    have B := Lib.hid (B.out.trans (hb.mono B.out.size))
    clear hb hd
    cases v
    · skip
      go_wp2_with fail
      refine (sameInts_it2 _ _ _ l _ _ _ I1.out I2.out).mono ?_
      rintro e w5 ⟨rfl, hd⟩
      have hb := hd.below w4.heap.size
      have I := Lib.hid (I.out.below hb)
      have I1 := Lib.hid (I1.out.below hb)
      have I2 := Lib.hid (I2.out.below hb)
      have B := Lib.hid (B.out.trans (hb.mono B.out.size))
      clear hb hd
      go_wp2
      go_ret
      exact ⟨rfl, B.out⟩
    by_cases hp0 : p = 0
    · have ep : (p == 0) = true := by simp [hp0]
      clear hp0
      go_wp2_with fail
      refine (sameInts_it2 _ _ _ l _ _ _ I1.out I2.out).mono ?_
      rintro e w5 ⟨rfl, hd⟩
      have hb := hd.below w4.heap.size
      have I := Lib.hid (I.out.below hb)
      have I1 := Lib.hid (I1.out.below hb)
      have I2 := Lib.hid (I2.out.below hb)
      have B := Lib.hid (B.out.trans (hb.mono B.out.size))
      clear hb hd
      go_wp2
      go_ret
      exact ⟨rfl, B.out⟩
    have ep : (p == 0) = false := by simp [hp0]
    obtain ⟨hvo, hp100, -⟩ := (okH_iff _ _).1 HV.out
    have HR : Hid (l = hurdL zs p (totI zs)) := by rw [Hid, ← HL.out, hurR, if_pos HV.out]
    have hll : l.length = n := by rw [HR.out, hurd_length]; exact Hn.out
    have VO := Lib.hid hvo
    have HLL := Lib.hid hll
    have hn1 : 1 ≤ n ∧ n ≤ 5 := by have := (voteB_iff zs).1 VO.out; rw [Hn.out] at this; exact this.1.2
    have XV : Hid (toB zs 99 n = true) := by have := ((voteB_iff zs).1 VO.out).1.1; rw [Hn.out] at this; exact this
    rw [hll] at I1 I2 ⊢
    clear hvo hll
    obtain ⟨hok1, hles⟩ := p102_less HV.out hp0
    obtain ⟨hok0, hzer⟩ := p102_zero VO.out
    obtain ⟨x, hx⟩ : ∃ x, hurdL zs (p - 1) (totI zs) = x := ⟨_, rfl⟩
    rw [hx, ← HR.out, Hn.out] at hles
    have HX : Hid (hurR zs (p - 1) = x) := by rw [Hid, hurR, if_pos hok1]; exact hx
    have HZ : Hid (hurR zs 0 = zs) := by rw [Hid, hurR, if_pos hok0]; exact hzer
    have hxl : x.length = n := by rw [← hx, hurd_length]; exact Hn.out
    have K1 := Lib.hid hok1
    have K0 := Lib.hid hok0
    have HLE := Lib.hid hles
    have hw1 : IntKind.i64.wrap (p - 1) = p - 1 := IntWalk.i64_in _ (by omega)
    have hnn : ((n : Int) == (n : Int)) = true := by simp
    have hzn := Hn.out
    clear hok1 hok0 hles hzer hx hp0
    go_wp2_with fail
    refine (implHur_as _ n cv zs (p - 1) x true _ I.out K1.out HX.out).mono ?_
    rintro e w5 ⟨a3, c3, rfl, ho, hb⟩
    have I := Lib.hid (I.out.below hb)
    have I1 := Lib.hid (I1.out.below hb)
    have I2 := Lib.hid (I2.out.below hb)
    have I3 := Lib.hid (IsInts.of_owned ho (by omega))
    have B := Lib.hid (B.out.trans (hb.mono B.out.size))
    clear hb ho
    rw [hxl] at I3 ⊢
    go_wp2_with fail
    refine (implHur_as _ n cv zs 0 zs true _ I.out K0.out HZ.out).mono ?_
    rintro e w6 ⟨a4, c4, rfl, ho, hb⟩
    have I := Lib.hid (I.out.below hb)
    have I1 := Lib.hid (I1.out.below hb)
    have I2 := Lib.hid (I2.out.below hb)
    have I3 := Lib.hid (I3.out.below hb)
    have I4 := Lib.hid (IsInts.of_owned ho (by omega))
    have B := Lib.hid (B.out.trans (hb.mono B.out.size))
    clear hb ho
    rw [hzn] at I4 ⊢
    obtain ⟨ob, oo, rfl, hob, hoc⟩ := I1.out.2.2.2 (by omega)
    obtain ⟨xb, xo, rfl, hxb, hxc⟩ := I3.out.2.2.2 (by omega)
    have HOC := Lib.hid hoc
    have HXC := Lib.hid hxc
    clear hoc hxc
    go_wp2
    go_loopw [13] (fun iv wr => ∃ i : Nat, i ≤ n ∧ iv = .int .i64 (i : Int) ∧ Dr w6 wr) (fun iv _ => n - (intOf iv).toNat)
    case atStart => exact ⟨0, Nat.zero_le _, rfl, Dr.refl _⟩
    case round =>
      obtain ⟨i, hi, rfl, hd⟩ := hrel
      by_cases hlt : i < n
      · have hii : (i : Int) < (n : Int) := by omega
        have co0 := ((hd.below w6.heap.size).cell (p := ⟨ob, oo + i, none⟩) hob).trans (HOC.out i hlt)
        have cx0 := ((hd.below w6.heap.size).cell (p := ⟨xb, xo + i, none⟩) hxb).trans (HXC.out i hlt)
        have hle := HLE.out i hlt
        obtain ⟨o, ho⟩ : ∃ o, l[i]?.getD 0 = o := ⟨_, rfl⟩
        obtain ⟨y, hy⟩ : ∃ y, x[i]?.getD 0 = y := ⟨_, rfl⟩
        rw [ho] at co0 hle
        rw [hy] at cx0 hle
        have dl : decide (y < o) = false := decide_eq_false (by omega)
        clear ho hy
        go_wp2_with fail
        go_quiet (fail)
        go_wp2
        go_roundw
        case rel => exact ⟨i + 1, by omega, by go_num, hd.drewN _⟩
        case measure => simp [intOf]; omega
      · obtain rfl : i = n := by omega
        have hb := hd.below w6.heap.size
        have IA := Lib.hid (I4.out.below hb)
        have IB := Lib.hid (I.out.below hb)
        have B5 := Lib.hid (B.out.trans (hb.mono B.out.size))
        clear hb
        go_wp2_with fail
        refine (sameInts_it2 _ _ _ zs _ _ _ IA.out IB.out).mono ?_
        rintro e w9 ⟨rfl, hd9⟩
        go_wp2
        go_ret
        exact ⟨rfl, B5.out.trans ((hd9.below _).mono B5.out.size)⟩
  · clear w0
    go_enter Try.func8, Try.ntmps8
    go_wp2
    go_ret
    exact ⟨rfl, Below.refl _ _⟩

end Go.Proofs.Ytbcemgmfkddafaa.fnHurdleMore
