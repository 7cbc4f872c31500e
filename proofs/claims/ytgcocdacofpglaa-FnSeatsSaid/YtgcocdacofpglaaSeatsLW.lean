/-
  laws.FnSeats returns true for every code. No condition.
-/
import Derived.Test.YtgcocdacofpglaaGrp1
import Derived.Test.YtgcocdacofpglaaSeatY
import Derived.Test.YtgcocdacofpglaaDrawSd
namespace Go.Proofs.Ytgcocdacofpglaa.fnSeats
open Go.RowKit
set_option linter.unusedVariables false


set_option maxRecDepth 100000 in
set_option maxHeartbeats 2000000 in
/-- The law's walk: it returns true, and writes nothing that was there. -/
theorem walk (a0 : Option Addr) (len0 cap0 : Nat) (z0 : List Int) (w : World) (w0 : IsRow .u8 w a0 len0 cap0 z0) :
    Calls Try.prog 3 #[.slice a0 len0 cap0] w fun e w' => e = .returned (.bool true) ∧ Below w.heap.size w w' := by
  by_cases hl : len0 ≤ 1048576
  · skip
    have hcap := w0.cap
    have HB := Lib.hid w0.bytes; clear w0
    go_enter Try.func3, Try.ntmps3
    go_wp2_with fail
    refine (drawSeats_any a0 len0 cap0 _ _ HB.out hcap (by omega)).mono ?_
    rintro e w1 ⟨zs, av, cv, s, m, lots, al, cl, rfl, ho, hz5, hol, hl5, hs, hm, hb⟩
    have B := Lib.hid hb
    obtain ⟨n, hn⟩ : ∃ n, zs.length = n := ⟨_, rfl⟩
    rw [hn] at ho hz5 ⊢
    have I := Lib.hid (IsInts.of_owned ho (by omega))
    have Hn := Lib.hid hn
    obtain ⟨nl, hnl⟩ : ∃ nl, lots.length = nl := ⟨_, rfl⟩
    rw [hnl] at hol hl5 ⊢
    have J := Lib.hid (IsInts.of_owned hol (by omega))
    have Hnl := Lib.hid hnl
    clear hb HB ho hol hn hnl
    obtain ⟨v, hv⟩ : ∃ v, okD zs s m lots = v := ⟨_, rfl⟩
    obtain ⟨l, hL⟩ : ∃ l, divL zs s m lots = l := ⟨_, rfl⟩
    have hx5 : l.length ≤ 5 := by rw [← hL]; exact div_short5 (by rw [Hn.out]; exact hz5) _ _ _
    have HV := Lib.hid hv
    have HL := Lib.hid hL
    clear hv hL
    have hne : (v != v) = false := by cases v <;> rfl
    have heq : (v == v) = true := by cases v <;> rfl
    go_wp2_with fail
    refine (implSeats_as _ n cv zs s m _ nl cl lots l v _ I.out J.out HV.out HL.out).mono ?_
    rintro e w2 ⟨a1, c1, rfl, ho, hb⟩
    have I := Lib.hid (I.out.below hb)
    have J := Lib.hid (J.out.below hb)
    have I1 := Lib.hid (IsInts.of_owned ho (by omega))
    have B := Lib.hid (B.out.trans (hb.mono B.out.size))
    clear hb ho
    go_wp2_with fail
    refine (specSeats_as _ n cv zs s m _ nl cl lots l v _ I.out J.out HV.out HL.out).mono ?_
    rintro e w3 ⟨a2, c2, rfl, ho, hb⟩
    have I := Lib.hid (I.out.below hb)
    have J := Lib.hid (J.out.below hb)
    have I1 := Lib.hid (I1.out.below hb)
    have I2 := Lib.hid (IsInts.of_owned ho (by omega))
    have B := Lib.hid (B.out.trans (hb.mono B.out.size))
    clear hb ho
    go_wp2_with fail
    refine (sameInts_it _ _ _ l _ _ _ I1.out I2.out).mono ?_
    rintro e w4 ⟨rfl, hd⟩
    have hb := hd.below w3.heap.size
    have I := Lib.hid (I.out.below hb)
    have J := Lib.hid (J.out.below hb)
    have I1 := Lib.hid (I1.out.below hb)
    have I2 := Lib.hid (I2.out.below hb)
    have B := Lib.hid (B.out.trans (hb.mono B.out.size))
    clear hb hd
    cases v
    · skip
      go_wp2_with fail
      refine (sameInts_it _ _ _ l _ _ _ I1.out I2.out).mono ?_
      rintro e w5 ⟨rfl, hd⟩
      have hb := hd.below w4.heap.size
      have I := Lib.hid (I.out.below hb)
      have J := Lib.hid (J.out.below hb)
      have I1 := Lib.hid (I1.out.below hb)
      have I2 := Lib.hid (I2.out.below hb)
      have B := Lib.hid (B.out.trans (hb.mono B.out.size))
      clear hb hd
      go_wp2
      go_ret
      exact ⟨rfl, B.out⟩
    obtain ⟨hvo, hs20, hme, hlo, hln⟩ := (okD_iff _ _ _ _).1 HV.out
    obtain ⟨S, rfl⟩ := Int.eq_ofNat_of_zero_le hs20.1
    have hS : S ≤ 20 := by omega
    have HR : Hid (l = seatsL zs m lots S) := by rw [Hid, ← HL.out, divL, if_pos HV.out, Int.toNat_natCast]
    have hll : l.length = n := by rw [HR.out, seatsL_length]; exact Hn.out
    obtain rfl : nl = n := by rw [← Hnl.out, hln]; exact Hn.out
    have VO := Lib.hid hvo
    have ME := Lib.hid hme
    have LO := Lib.hid hlo
    have LN := Lib.hid hln
    have HLL := Lib.hid hll
    have hn1 : 1 ≤ nl ∧ nl ≤ 5 := by have := (voteB_iff zs).1 VO.out; rw [Hn.out] at this; exact this.1.2
    have XV : Hid (toB zs 99 nl = true) := by have := ((voteB_iff zs).1 VO.out).1.1; rw [Hn.out] at this; exact this
    rw [hll] at I1 I2 ⊢
    clear hvo hme hlo hln hll
    have HE : Hid (∀ i, i < nl → 0 ≤ l[i]?.getD 0 ∧ l[i]?.getD 0 ≤ 20 ∧ (zs[i]?.getD 0 = 0 → l[i]?.getD 0 = 0)) := fun i hi => by rw [HR.out]; exact p82_each VO.out ME.out LO.out LN.out hS (by rw [Hn.out]; exact hi)
    have HT : Hid (totI l = (S : Int)) := by rw [Hid, HR.out]; exact (seats_are ME.out LO.out LN.out S hS).2.1
    have HCK : Hid (checkB zs l m = true) := by rw [Hid, HR.out]; exact p82_check VO.out ME.out LO.out LN.out hS
    obtain ⟨vb, vo, rfl, hvb, hvc⟩ := I.out.2.2.2 (by omega)
    obtain ⟨ob, oo, rfl, hob, hoc⟩ := I1.out.2.2.2 (by omega)
    have HVC := Lib.hid hvc
    have HOC := Lib.hid hoc
    clear hvc hoc
    have hss : ((S : Int) == (S : Int)) = true := by simp
    have hnn : ((nl : Int) == (nl : Int)) = true := by simp
    go_wp2
    go_loop [11] (fun iv => ∃ i : Nat, i ≤ nl ∧ iv = .int .i64 (i : Int)) (fun iv => nl - (intOf iv).toNat)
    case atStart => exact ⟨0, Nat.zero_le _, rfl⟩
    case round =>
      obtain ⟨i, hi, rfl⟩ := hrel
      by_cases hlt : i < nl
      · have hii : (i : Int) < (nl : Int) := by omega
        have ci := HVC.out i hlt
        have co := HOC.out i hlt
        have hb := HE.out i hlt
        obtain ⟨z, hz⟩ : ∃ z, zs[i]?.getD 0 = z := ⟨_, rfl⟩
        obtain ⟨o, ho⟩ : ∃ o, l[i]?.getD 0 = o := ⟨_, rfl⟩
        rw [hz] at ci hb
        rw [ho] at co hb
        obtain ⟨b1, b2, b3⟩ := hb
        have B3 := Lib.hid b3
        clear b3 hz ho
        have hneg : decide (o < 0) = false := decide_eq_false (by omega)
        cases hz0 : (z == 0)
        · go_wp2
          go_round
          case rel => exact ⟨i + 1, by omega, by go_num⟩
          case measure => simp [intOf]; omega
        · have h0 : o = 0 := B3.out (by simpa using hz0)
          subst h0
          go_wp2
          go_round
          case rel => exact ⟨i + 1, by omega, by go_num⟩
          case measure => simp [intOf]; omega
      · obtain rfl : i = nl := by omega
        go_wp2_with fail
        refine (lawSum_as _ _ _ l (S : Int) _ I1.out (by omega) (fun x hx => by have := HE.out x hx; omega) HT.out).mono ?_
        rintro e w9 ⟨rfl, rfl⟩
        go_wp2_with fail
        refine (implCheck_as _ _ cv zs _ _ _ l m true _ I.out I1.out HCK.out).mono ?_
        rintro e w9 ⟨rfl, hb⟩
        go_wp2
        go_ret
        exact ⟨rfl, B.out.trans (hb.mono B.out.size)⟩
  · clear w0
    go_enter Try.func3, Try.ntmps3
    go_wp2
    go_ret
    exact ⟨rfl, Below.refl _ _⟩

end Go.Proofs.Ytgcocdacofpglaa.fnSeats
