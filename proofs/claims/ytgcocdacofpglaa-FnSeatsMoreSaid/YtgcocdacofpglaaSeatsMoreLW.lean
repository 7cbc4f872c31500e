/-
  laws.FnSeatsMore returns true for every code. No condition.
-/
import Derived.Test.YtgcocdacofpglaaGrp1
import Derived.Test.YtgcocdacofpglaaSeatY
import Derived.Test.YtgcocdacofpglaaDrawSd
namespace Go.Proofs.Ytgcocdacofpglaa.fnSeatsMore
open Go.RowKit
set_option linter.unusedVariables false


set_option maxRecDepth 100000 in
set_option maxHeartbeats 2000000 in
/-- The law's walk: it returns true, and writes nothing that was there. -/
theorem walk (a0 : Option Addr) (len0 cap0 : Nat) (z0 : List Int) (w : World) (w0 : IsRow .u8 w a0 len0 cap0 z0) :
    Calls Try.prog 4 #[.slice a0 len0 cap0] w fun e w' => e = .returned (.bool true) ∧ Below w.heap.size w w' := by
  by_cases hl : len0 ≤ 1048576
  · skip
    have hcap := w0.cap
    have HB := Lib.hid w0.bytes; clear w0
    go_enter Try.func4, Try.ntmps4
    go_wp2_with fail
    refine (drawSeats_any a0 len0 cap0 _ _ HB.out hcap (by omega)).mono ?_
    rintro e w1 ⟨zs, av, cv, s, m, lots, al, cl, rfl, ho, hz5, hol, hl5, hs, hm, hb⟩
    have B := Lib.hid hb
    obtain ⟨n, hn⟩ : ∃ n, zs.length = n := ⟨_, rfl⟩
    rw [hn] at ho hz5 ⊢
    have I := Lib.hid (IsInts.of_owned ho (by omega))
    have Hn := Lib.hid hn
    obtain ⟨nl, hnl⟩ : ∃ nl, lots.length = nl := ⟨_, rfl⟩
    rw [hnl] at hol hl5 ⊢
    have J := Lib.hid (IsInts.of_owned hol (by omega))
    have Hnl := Lib.hid hnl
    clear hb HB ho hol hn hnl
    obtain ⟨v, hv⟩ : ∃ v, okD zs s m lots = v := ⟨_, rfl⟩
    obtain ⟨l, hL⟩ : ∃ l, divL zs s m lots = l := ⟨_, rfl⟩
    have hx5 : l.length ≤ 5 := by rw [← hL]; exact div_short5 (by rw [Hn.out]; exact hz5) _ _ _
    have HV := Lib.hid hv
    have HL := Lib.hid hL
    clear hv hL
    have hne : (v != v) = false := by cases v <;> rfl
    have heq : (v == v) = true := by cases v <;> rfl
    go_wp2_with fail
    refine (implSeats_as _ n cv zs s m _ nl cl lots l v _ I.out J.out HV.out HL.out).mono ?_
    rintro e w2 ⟨a1, c1, rfl, ho, hb⟩
    have I := Lib.hid (I.out.below hb)
    have J := Lib.hid (J.out.below hb)
    have I1 := Lib.hid (IsInts.of_owned ho (by omega))
    have B := Lib.hid (B.out.trans (hb.mono B.out.size))
    clear hb ho
    go_wp2_with fail
    refine (specSeats_as _ n cv zs s m _ nl cl lots l v _ I.out J.out HV.out HL.out).mono ?_
    rintro e w3 ⟨a2, c2, rfl, ho, hb⟩
    have I := Lib.hid (I.out.below hb)
    have J := Lib.hid (J.out.below hb)
    have I1 := Lib.hid (I1.out.below hb)
    have I2 := Lib.hid (IsInts.of_owned ho (by omega))
    have B := Lib.hid (B.out.trans (hb.mono B.out.size))
    clear hb ho
    go_wp2_with fail
    refine (sameInts_it _ _ _ l _ _ _ I1.out I2.out).mono ?_
    rintro e w4 ⟨rfl, hd⟩
    have hb := hd.below w3.heap.size
    have I := Lib.hid (I.out.below hb)
    have J := Lib.hid (J.out.below hb)
    have I1 := Lib.hid (I1.out.below hb)
    have I2 := Lib.hid (I2.out.below hb)
    have B := Lib.hid (B.out.trans (hb.mono B.out.size))
    clear hb hd
    cases v
    · skip
      go_wp2_with fail
      refine (sameInts_it _ _ _ l _ _ _ I1.out I2.out).mono ?_
      rintro e w5 ⟨rfl, hd⟩
      have hb := hd.below w4.heap.size
      have I := Lib.hid (I.out.below hb)
      have J := Lib.hid (J.out.below hb)
      have I1 := Lib.hid (I1.out.below hb)
      have I2 := Lib.hid (I2.out.below hb)
      have B := Lib.hid (B.out.trans (hb.mono B.out.size))
      clear hb hd
      go_wp2
      go_ret
      exact ⟨rfl, B.out⟩
    obtain ⟨hvo, hs20, hme, hlo, hln⟩ := (okD_iff _ _ _ _).1 HV.out
    obtain ⟨S, rfl⟩ := Int.eq_ofNat_of_zero_le hs20.1
    have hS : S ≤ 20 := by omega
    have HR : Hid (l = seatsL zs m lots S) := by rw [Hid, ← HL.out, divL, if_pos HV.out, Int.toNat_natCast]
    have hll : l.length = n := by rw [HR.out, seatsL_length]; exact Hn.out
    obtain rfl : nl = n := by rw [← Hnl.out, hln]; exact Hn.out
    have VO := Lib.hid hvo
    have ME := Lib.hid hme
    have LO := Lib.hid hlo
    have LN := Lib.hid hln
    have HLL := Lib.hid hll
    have hn1 : 1 ≤ nl ∧ nl ≤ 5 := by have := (voteB_iff zs).1 VO.out; rw [Hn.out] at this; exact this.1.2
    have XV : Hid (toB zs 99 nl = true) := by have := ((voteB_iff zs).1 VO.out).1.1; rw [Hn.out] at this; exact this
    rw [hll] at I1 I2 ⊢
    clear hvo hme hlo hln hll
    by_cases h20 : S = 20
    · subst h20
      have e20 : (((20 : Nat) : Int) == 20) = true := rfl
      go_wp2_with fail
      refine (sameInts_it _ _ _ l _ _ _ I1.out I2.out).mono ?_
      rintro e w5 ⟨rfl, hd⟩
      have hb := hd.below w4.heap.size
      have I := Lib.hid (I.out.below hb)
      have J := Lib.hid (J.out.below hb)
      have I1 := Lib.hid (I1.out.below hb)
      have I2 := Lib.hid (I2.out.below hb)
      have B := Lib.hid (B.out.trans (hb.mono B.out.size))
      clear hb hd
      go_wp2
      go_ret
      exact ⟨rfl, B.out⟩
    have e20 : ((S : Int) == 20) = false := by simp; omega
    have hw1 : IntKind.i64.wrap ((S : Int) + 1) = ((S + 1 : Nat) : Int) := by rw [IntWalk.i64_in _ (by omega)]; omega
    have OK2 : Hid (okD zs ((S + 1 : Nat) : Int) m lots = true) := (okD_iff _ _ _ _).2 ⟨VO.out, ⟨by omega, by omega⟩, ME.out, LO.out, LN.out⟩
    obtain ⟨x, hx⟩ : ∃ x, seatsL zs m lots (S + 1) = x := ⟨_, rfl⟩
    have HX : Hid (divL zs ((S + 1 : Nat) : Int) m lots = x) := by rw [Hid, divL, if_pos OK2.out, Int.toNat_natCast]; exact hx
    have hxl : x.length = nl := by rw [← hx, seatsL_length]; exact Hn.out
    obtain ⟨k, hk⟩ : ∃ k, nextI zs l m lots = k := ⟨_, rfl⟩
    have HK := Lib.hid hk
    have hkr : 0 ≤ k ∧ k < (nl : Int) := by have h1 := (p87_next (vs := zs) (gs := l) (m := m) (lots := lots) ((okN_iff _ _ _ _).2 ⟨VO.out, by rw [HR.out]; exact (seats_are ME.out LO.out LN.out S hS).1, ME.out, LO.out, LN.out⟩) hk).1; rw [Hn.out] at h1; exact h1
    have HXS : Hid (x = l.set k.toNat (l[k.toNat]?.getD 0 + 1)) := by have h1 := p83_next (vs := zs) VO.out ME.out LO.out LN.out hS; rw [← HR.out, hk] at h1; rw [Hid, ← hx, seatsL_succ, ← HR.out, ← h1]; rfl
    have HE : Hid (∀ i, i < nl → 0 ≤ l[i]?.getD 0 ∧ l[i]?.getD 0 ≤ 20 ∧ (zs[i]?.getD 0 = 0 → l[i]?.getD 0 = 0)) := fun i hi => by rw [HR.out]; exact p82_each VO.out ME.out LO.out LN.out hS (by rw [Hn.out]; exact hi)
    obtain ⟨K, rfl⟩ := Int.eq_ofNat_of_zero_le hkr.1
    rw [Int.toNat_natCast] at HXS
    have hKn : K < nl := by omega
    clear hx hk hkr h20
    go_wp2_with fail
    refine (implSeats_as _ nl cv zs ((S + 1 : Nat) : Int) m _ nl cl lots x true _ I.out J.out OK2.out HX.out).mono ?_
    rintro e w5 ⟨a3, c3, rfl, ho, hb⟩
    have I := Lib.hid (I.out.below hb)
    have J := Lib.hid (J.out.below hb)
    have I1 := Lib.hid (I1.out.below hb)
    have I2 := Lib.hid (I2.out.below hb)
    have I3 := Lib.hid (IsInts.of_owned ho (by omega))
    have B := Lib.hid (B.out.trans (hb.mono B.out.size))
    clear hb ho
    rw [hxl] at I3 ⊢
    have HXL := Lib.hid hxl
    clear hxl
    go_wp2_with fail
    refine (implNext_as _ nl cv zs _ nl _ l m _ nl cl lots (K : Int) _ I.out I1.out J.out HK.out).mono ?_
    rintro e w6 ⟨rfl, hb⟩
    have I := Lib.hid (I.out.below hb)
    have J := Lib.hid (J.out.below hb)
    have I1 := Lib.hid (I1.out.below hb)
    have I2 := Lib.hid (I2.out.below hb)
    have I3 := Lib.hid (I3.out.below hb)
    have B := Lib.hid (B.out.trans (hb.mono B.out.size))
    clear hb
    obtain ⟨xb, xo, rfl, hxb, hxc⟩ := I3.out.2.2.2 (by omega)
    obtain ⟨ob, oo, rfl, hob, hoc⟩ := I1.out.2.2.2 (by omega)
    have HXC := Lib.hid hxc
    have HOC := Lib.hid hoc
    clear hxc hoc
    have hnn : ((nl : Int) == (nl : Int)) = true := by simp
    have hkk : (K : Int) < (nl : Int) := by omega
    have hk0 : (0 : Int) ≤ (K : Int) := by omega
    go_wp2
    go_loop [14, 15] (fun iv _ => ∃ i : Nat, i ≤ nl ∧ iv = .int .i64 (i : Int)) (fun iv _ => nl - (intOf iv).toNat)
    case atStart => exact ⟨0, Nat.zero_le _, rfl⟩
    case round =>
      obtain ⟨i, hi, rfl⟩ := hrel
      by_cases hlt : i < nl
      · have hii : (i : Int) < (nl : Int) := by omega
        have cx := HXC.out i hlt
        have co := HOC.out i hlt
        have hb := HE.out i hlt
        obtain ⟨o, ho⟩ : ∃ o, l[i]?.getD 0 = o := ⟨_, rfl⟩
        rw [ho] at co hb
        obtain ⟨b1, b2, -⟩ := hb
        by_cases hik : i = K
        · subst hik
          have hx : x[i]?.getD 0 = o + 1 := by
            have hll := HLL.out
            rw [HXS.out, List.getElem?_set_self (by omega), ho]; rfl
          rw [hx] at cx
          have heq2 : ((i : Int) == (i : Int)) = true := by simp
          have hne2 : ((o + 1) != (o + 1)) = false := by simp
          clear hx ho
          go_wp2
          go_round
          case rel => exact ⟨i + 1, by omega, by go_num⟩
          case measure => simp [intOf]; omega
        · have hx : x[i]?.getD 0 = o := by rw [HXS.out, List.getElem?_set_ne (by omega), ho]
          rw [hx] at cx
          have heq2 : ((i : Int) == (K : Int)) = false := by simp; omega
          have hne2 : (o != o) = false := by simp
          clear hx ho
          go_wp2
          go_round
          case rel => exact ⟨i + 1, by omega, by go_num⟩
          case measure => simp [intOf]; omega
      · obtain rfl : i = nl := by omega
        go_wp2
        go_ret
        exact ⟨rfl, B.out⟩
  · clear w0
    go_enter Try.func4, Try.ntmps4
    go_wp2
    go_ret
    exact ⟨rfl, Below.refl _ _⟩

end Go.Proofs.Ytgcocdacofpglaa.fnSeatsMore
