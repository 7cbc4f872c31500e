/-
  laws.FnHurdle returns true for every code. No condition.
-/
import Derived.Test.YtbcemgmfkddafaaGrp1
import Derived.Test.YtbcemgmfkddafaaGrp8
import Derived.Test.YtbcemgmfkddafaaMeasH
import Derived.Test.YtbcemgmfkddafaaDrawGa
namespace Go.Proofs.Ytbcemgmfkddafaa.fnHurdle
open Go.RowKit
set_option linter.unusedVariables false


set_option maxRecDepth 100000 in
set_option maxHeartbeats 2000000 in
/-- The law's walk: it returns true, and writes nothing that was there. -/
theorem walk (a0 : Option Addr) (len0 cap0 : Nat) (z0 : List Int) (w : World) (w0 : IsRow .u8 w a0 len0 cap0 z0) :
    Calls Try.prog 7 #[.slice a0 len0 cap0] w fun e w' => e = .returned (.bool true) ∧ Below w.heap.size w w' := by
  by_cases hl : len0 ≤ 1048576
  · skip
    have hcap := w0.cap
    have HB := Lib.hid w0.bytes; clear w0
    go_enter Try.func7, Try.ntmps7
    go_wp2_with fail
    refine (drawHur_any a0 len0 cap0 _ _ HB.out hcap (by omega)).mono ?_
    rintro e w1 ⟨zs, av, cv, p, rfl, ho, hz5, hpb, hb⟩
    have B := Lib.hid hb
    obtain ⟨n, hn⟩ : ∃ n, zs.length = n := ⟨_, rfl⟩
    rw [hn] at ho hz5 ⊢
    have I := Lib.hid (IsInts.of_owned ho (by omega))
    have Hn := Lib.hid hn
    clear hb HB ho hn
    obtain ⟨v, hv⟩ : ∃ v, okH zs p = v := ⟨_, rfl⟩
    obtain ⟨l, hL⟩ : ∃ l, hurR zs p = l := ⟨_, rfl⟩
    have hx5 : l.length ≤ 5 := by rw [← hL]; exact hurR_five _ _
    have HV := Lib.hid hv
    have HL := Lib.hid hL
    clear hv hL
    have hne : (v != v) = false := by cases v <;> rfl
    have heq : (v == v) = true := by cases v <;> rfl
    go_wp2_with fail
    refine (implHur_as _ n cv zs p l v _ I.out HV.out HL.out).mono ?_
    rintro e w2 ⟨a1, c1, rfl, ho, hb⟩
    have I := Lib.hid (I.out.below hb)
    have I1 := Lib.hid (IsInts.of_owned ho (by omega))
    have B := Lib.hid (B.out.trans (hb.mono B.out.size))
    clear hb ho
    go_wp2_with fail
    refine (specHur_as _ n cv zs p l v _ I.out HV.out HL.out).mono ?_
    rintro e w3 ⟨a2, c2, rfl, ho, hb⟩
    have I := Lib.hid (I.out.below hb)
    have I1 := Lib.hid (I1.out.below hb)
    have I2 := Lib.hid (IsInts.of_owned ho (by omega))
    have B := Lib.hid (B.out.trans (hb.mono B.out.size))
    clear hb ho
    go_wp2_with fail
    refine (sameInts_it2 _ _ _ l _ _ _ I1.out I2.out).mono ?_
    rintro e w4 ⟨rfl, hd⟩
    have hb := hd.below w3.heap.size
    have I := Lib.hid (I.out.below hb)
    have I1 := Lib.hid (I1.out.below hb)
    have I2 := Lib.hid (I2.out.below hb)
    have B := Lib.hid (B.out.trans (hb.mono B.out.size))
    clear hb hd
    cases v
    · skip
      go_wp2_with fail
      refine (sameInts_it2 _ _ _ l _ _ _ I1.out I2.out).mono ?_
      rintro e w5 ⟨rfl, hd⟩
      have hb := hd.below w4.heap.size
      have I := Lib.hid (I.out.below hb)
      have I1 := Lib.hid (I1.out.below hb)
      have I2 := Lib.hid (I2.out.below hb)
      have B := Lib.hid (B.out.trans (hb.mono B.out.size))
      clear hb hd
      go_wp2
      go_ret
      exact ⟨rfl, B.out⟩
    obtain ⟨hvo, hp100, -⟩ := (okH_iff _ _).1 HV.out
    have HR : Hid (l = hurdL zs p (totI zs)) := by rw [Hid, ← HL.out, hurR, if_pos HV.out]
    have hll : l.length = n := by rw [HR.out, hurd_length]; exact Hn.out
    have VO := Lib.hid hvo
    have HLL := Lib.hid hll
    have hn1 : 1 ≤ n ∧ n ≤ 5 := by have := (voteB_iff zs).1 VO.out; rw [Hn.out] at this; exact this.1.2
    have XV : Hid (toB zs 99 n = true) := by have := ((voteB_iff zs).1 VO.out).1.1; rw [Hn.out] at this; exact this
    rw [hll] at I1 I2 ⊢
    clear hvo hll
    have hhb := hurd_bound VO.out hp100
    obtain ⟨T, hT⟩ : ∃ T, totI zs = T := ⟨_, rfl⟩
    rw [hT] at hhb HR
    have HT := Lib.hid hT
    obtain ⟨m, hm⟩ : ∃ m, p * T = m := ⟨_, rfl⟩
    rw [hm] at hhb
    have hwm : IntKind.i64.wrap (p * T) = m := by rw [hm]; exact IntWalk.i64_in _ (by omega)
    have HLA : Hid (∀ i : Nat, i < n → l[i]?.getD 0 = if 100 * (zs[i]?.getD 0) < m then 0 else zs[i]?.getD 0) := fun i hi => by rw [HR.out, hurd_at (by rw [Hn.out]; exact hi), hm]
    have HB1 : Hid (∀ x : Nat, x < n → 0 ≤ zs[x]?.getD 0 ∧ zs[x]?.getD 0 ≤ 100000) := fun x hx => by have := toB_at XV.out hx; omega
    have hnn : ((n : Int) == (n : Int)) = true := by simp
    clear hT hm
    obtain ⟨vb, vo, rfl, hvb, hvc⟩ := I.out.2.2.2 (by omega)
    have HVC := Lib.hid hvc
    obtain ⟨ob, oo, rfl, hob, hoc⟩ := I1.out.2.2.2 (by omega)
    have HOC := Lib.hid hoc
    clear hvc hoc
    go_wp2
    go_loopw [9, 10] (fun iv _ wr => ∃ i : Nat, i ≤ n ∧ iv = .int .i64 (i : Int) ∧ Dr w4 wr) (fun iv _ _ => n - (intOf iv).toNat)
    case atStart => exact ⟨0, Nat.zero_le _, rfl, Dr.refl _⟩
    case round =>
      obtain ⟨i, hi, rfl, hd⟩ := hrel
      by_cases hlt : i < n
      · have hii : (i : Int) < (n : Int) := by omega
        have IW := Lib.hid (I.out.below (hd.below w4.heap.size))
        have cv0 := ((hd.below w4.heap.size).cell (p := ⟨vb, vo + i, none⟩) hvb).trans (HVC.out i hlt)
        have co0 := ((hd.below w4.heap.size).cell (p := ⟨ob, oo + i, none⟩) hob).trans (HOC.out i hlt)
        have hzb := toB_at XV.out hlt
        have hla := HLA.out i hlt
        obtain ⟨z, hz⟩ : ∃ z, zs[i]?.getD 0 = z := ⟨_, rfl⟩
        obtain ⟨o, ho⟩ : ∃ o, l[i]?.getD 0 = o := ⟨_, rfl⟩
        rw [hz] at cv0 hzb hla
        rw [ho] at co0 hla
        have hwz : IntKind.i64.wrap (100 * z) = 100 * z := IntWalk.i64_in _ (by omega)
        clear hz ho
        by_cases hlow : 100 * z < m
        · skip
          have ho2 : o = 0 := by rw [hla]; exact if_pos hlow
          have hoo : (o != 0) = false := by simp [ho2]
          have dl : decide (100 * z < m) = true := decide_eq_true hlow
          clear hla hlow ho2
          go_wp2_with fail
          refine (lawSum_as _ n cv zs T _ IW.out (by omega) HB1.out HT.out).mono ?_
          rintro e w8 ⟨rfl, rfl⟩
          go_wp2
          go_roundw
          case rel => exact ⟨i + 1, by omega, by go_num, hd⟩
          case measure => simp [intOf]; omega
        · skip
          have ho2 : o = z := by rw [hla]; exact if_neg hlow
          have hoo : (o != z) = false := by simp [ho2]
          have dl : decide (100 * z < m) = false := decide_eq_false hlow
          clear hla hlow ho2
          go_wp2_with fail
          refine (lawSum_as _ n cv zs T _ IW.out (by omega) HB1.out HT.out).mono ?_
          rintro e w8 ⟨rfl, rfl⟩
          go_wp2
          go_roundw
          case rel => exact ⟨i + 1, by omega, by go_num, hd⟩
          case measure => simp [intOf]; omega
      · obtain rfl : i = n := by omega
        go_wp2
        go_ret
        exact ⟨rfl, B.out.trans ((hd.below _).mono B.out.size)⟩
  · clear w0
    go_enter Try.func7, Try.ntmps7
    go_wp2
    go_ret
    exact ⟨rfl, Below.refl _ _⟩

end Go.Proofs.Ytbcemgmfkddafaa.fnHurdle
