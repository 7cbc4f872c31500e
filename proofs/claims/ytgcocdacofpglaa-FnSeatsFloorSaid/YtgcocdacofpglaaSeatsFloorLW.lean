/-
  laws.FnSeatsFloor returns true for every code. No condition.
-/
import Derived.Test.YtgcocdacofpglaaGrp1
import Derived.Test.YtgcocdacofpglaaSeatY
import Derived.Test.YtgcocdacofpglaaDrawSd
namespace Go.Proofs.Ytgcocdacofpglaa.fnSeatsFloor
open Go.RowKit
set_option linter.unusedVariables false


set_option maxRecDepth 100000 in
set_option maxHeartbeats 2000000 in
/-- The law's walk: it returns true, and writes nothing that was there. -/
theorem walk (a0 : Option Addr) (len0 cap0 : Nat) (z0 : List Int) (w : World) (w0 : IsRow .u8 w a0 len0 cap0 z0) :
    Calls Try.prog 7 #[.slice a0 len0 cap0] w fun e w' => e = .returned (.bool true) ∧ Below w.heap.size w w' := by
  by_cases hl : len0 ≤ 1048576
  · skip
    have hcap := w0.cap
    have HB := Lib.hid w0.bytes; clear w0
    go_enter Try.func7, Try.ntmps7
    go_wp2_with fail
    refine (drawSeats_any a0 len0 cap0 _ _ HB.out hcap (by omega)).mono ?_
    rintro e w1 ⟨zs, av, cv, s, m, lots, al, cl, rfl, ho, hz5, hol, hl5, hs, hm, hb⟩
    have B := Lib.hid hb
    obtain ⟨n, hn⟩ : ∃ n, zs.length = n := ⟨_, rfl⟩
    rw [hn] at ho hz5 ⊢
    have I := Lib.hid (IsInts.of_owned ho (by omega))
    have Hn := Lib.hid hn
    obtain ⟨nl, hnl⟩ : ∃ nl, lots.length = nl := ⟨_, rfl⟩
    rw [hnl] at hol hl5 ⊢
    have J := Lib.hid (IsInts.of_owned hol (by omega))
    have Hnl := Lib.hid hnl
    clear hb HB ho hol hn hnl
    obtain ⟨v, hv⟩ : ∃ v, okD zs s m lots = v := ⟨_, rfl⟩
    obtain ⟨l, hL⟩ : ∃ l, divL zs s m lots = l := ⟨_, rfl⟩
    have hx5 : l.length ≤ 5 := by rw [← hL]; exact div_short5 (by rw [Hn.out]; exact hz5) _ _ _
    have HV := Lib.hid hv
    have HL := Lib.hid hL
    clear hv hL
    have hne : (v != v) = false := by cases v <;> rfl
    have heq : (v == v) = true := by cases v <;> rfl
    go_wp2_with fail
    refine (implSeats_as _ n cv zs s m _ nl cl lots l v _ I.out J.out HV.out HL.out).mono ?_
    rintro e w2 ⟨a1, c1, rfl, ho, hb⟩
    have I := Lib.hid (I.out.below hb)
    have J := Lib.hid (J.out.below hb)
    have I1 := Lib.hid (IsInts.of_owned ho (by omega))
    have B := Lib.hid (B.out.trans (hb.mono B.out.size))
    clear hb ho
    go_wp2_with fail
    refine (specSeats_as _ n cv zs s m _ nl cl lots l v _ I.out J.out HV.out HL.out).mono ?_
    rintro e w3 ⟨a2, c2, rfl, ho, hb⟩
    have I := Lib.hid (I.out.below hb)
    have J := Lib.hid (J.out.below hb)
    have I1 := Lib.hid (I1.out.below hb)
    have I2 := Lib.hid (IsInts.of_owned ho (by omega))
    have B := Lib.hid (B.out.trans (hb.mono B.out.size))
    clear hb ho
    go_wp2_with fail
    refine (sameInts_it _ _ _ l _ _ _ I1.out I2.out).mono ?_
    rintro e w4 ⟨rfl, hd⟩
    have hb := hd.below w3.heap.size
    have I := Lib.hid (I.out.below hb)
    have J := Lib.hid (J.out.below hb)
    have I1 := Lib.hid (I1.out.below hb)
    have I2 := Lib.hid (I2.out.below hb)
    have B := Lib.hid (B.out.trans (hb.mono B.out.size))
    clear hb hd
    cases v
    · skip
      go_wp2_with fail
      refine (sameInts_it _ _ _ l _ _ _ I1.out I2.out).mono ?_
      rintro e w5 ⟨rfl, hd⟩
      have hb := hd.below w4.heap.size
      have I := Lib.hid (I.out.below hb)
      have J := Lib.hid (J.out.below hb)
      have I1 := Lib.hid (I1.out.below hb)
      have I2 := Lib.hid (I2.out.below hb)
      have B := Lib.hid (B.out.trans (hb.mono B.out.size))
      clear hb hd
      go_wp2
      go_ret
      exact ⟨rfl, B.out⟩
    obtain ⟨hvo, hs20, hme, hlo, hln⟩ := (okD_iff _ _ _ _).1 HV.out
    obtain ⟨S, rfl⟩ := Int.eq_ofNat_of_zero_le hs20.1
    have hS : S ≤ 20 := by omega
    have HR : Hid (l = seatsL zs m lots S) := by rw [Hid, ← HL.out, divL, if_pos HV.out, Int.toNat_natCast]
    have hll : l.length = n := by rw [HR.out, seatsL_length]; exact Hn.out
    obtain rfl : nl = n := by rw [← Hnl.out, hln]; exact Hn.out
    have VO := Lib.hid hvo
    have ME := Lib.hid hme
    have LO := Lib.hid hlo
    have LN := Lib.hid hln
    have HLL := Lib.hid hll
    have hn1 : 1 ≤ nl ∧ nl ≤ 5 := by have := (voteB_iff zs).1 VO.out; rw [Hn.out] at this; exact this.1.2
    have XV : Hid (toB zs 99 nl = true) := by have := ((voteB_iff zs).1 VO.out).1.1; rw [Hn.out] at this; exact this
    rw [hll] at I1 I2 ⊢
    clear hvo hme hlo hln hll
    by_cases h1m : m = 1
    case neg =>
      have e1 : (m != 1) = true := by simpa using h1m
      go_wp2_with fail
      refine (sameInts_it _ _ _ l _ _ _ I1.out I2.out).mono ?_
      rintro e w5 ⟨rfl, hd⟩
      have hb := hd.below w4.heap.size
      have I := Lib.hid (I.out.below hb)
      have J := Lib.hid (J.out.below hb)
      have I1 := Lib.hid (I1.out.below hb)
      have I2 := Lib.hid (I2.out.below hb)
      have B := Lib.hid (B.out.trans (hb.mono B.out.size))
      clear hb hd
      go_wp2
      go_ret
      exact ⟨rfl, B.out⟩
    subst h1m
    have e1 : ((1 : Int) != 1) = false := rfl
    have HE : Hid (∀ i, i < nl → 0 ≤ l[i]?.getD 0 ∧ l[i]?.getD 0 ≤ 20 ∧ (zs[i]?.getD 0 = 0 → l[i]?.getD 0 = 0)) := fun i hi => by rw [HR.out]; exact p82_each VO.out ME.out LO.out LN.out hS (by rw [Hn.out]; exact hi)
    have HF : Hid (∀ i, i < nl → zs[i]?.getD 0 * (S : Int) < (l[i]?.getD 0 + 1) * totI zs) := fun i hi => by rw [HR.out]; exact p86_floor VO.out LO.out LN.out hS (by rw [Hn.out]; exact hi)
    obtain ⟨T, hT⟩ : ∃ T, totI zs = T := ⟨_, rfl⟩
    have HT := Lib.hid hT
    rw [hT] at HF
    have hTb : 0 ≤ T ∧ T ≤ 500 := by have h1 := tot_bound (m := 99) (by omega) (fun x hx => toB_at XV.out hx) nl (Nat.le_refl _); rw [List.take_of_length_le (by rw [Hn.out]; exact Nat.le_refl _), hT] at h1; omega
    have HB1 : Hid (∀ x : Nat, x < nl → 0 ≤ zs[x]?.getD 0 ∧ zs[x]?.getD 0 ≤ 100000) := fun x hx => by have := toB_at XV.out hx; omega
    clear hT
    go_wp2_with fail
    refine (lawSum_as _ nl cv zs T _ I.out (by omega) HB1.out HT.out).mono ?_
    rintro e w9 ⟨rfl, rfl⟩
    obtain ⟨vb, vo, rfl, hvb, hvc⟩ := I.out.2.2.2 (by omega)
    obtain ⟨ob, oo, rfl, hob, hoc⟩ := I1.out.2.2.2 (by omega)
    have HVC := Lib.hid hvc
    have HOC := Lib.hid hoc
    clear hvc hoc
    go_wp2
    go_loopw [12] (fun iv wr => ∃ i : Nat, i ≤ nl ∧ iv = .int .i64 (i : Int) ∧ Dr w4 wr) (fun iv _ => nl - (intOf iv).toNat)
    case atStart => exact ⟨0, Nat.zero_le _, rfl, Dr.refl _⟩
    case round =>
      obtain ⟨i, hi, rfl, hd⟩ := hrel
      by_cases hlt : i < nl
      · have hii : (i : Int) < (nl : Int) := by omega
        have ci := ((hd.below w4.heap.size).cell (p := ⟨vb, vo + i, none⟩) hvb).trans (HVC.out i hlt)
        have co := ((hd.below w4.heap.size).cell (p := ⟨ob, oo + i, none⟩) hob).trans (HOC.out i hlt)
        have hb := HE.out i hlt
        have hf := HF.out i hlt
        have hz5 := toB_at XV.out hlt
        obtain ⟨z, hz⟩ : ∃ z, zs[i]?.getD 0 = z := ⟨_, rfl⟩
        obtain ⟨o, ho⟩ : ∃ o, l[i]?.getD 0 = o := ⟨_, rfl⟩
        rw [hz] at ci hf hz5
        rw [ho] at co hb hf
        have p1 := mul_bound (x := o + 1) (y := T) ⟨by omega, by omega⟩ ⟨by omega, by omega⟩
        have p2 := mul_bound (x := z) (y := (S : Int)) ⟨by omega, by omega⟩ ⟨by omega, by omega⟩
        have hw1 : IntKind.i64.wrap (o + 1) = o + 1 := IntWalk.i64_in _ (by omega)
        have hw2 : IntKind.i64.wrap ((o + 1) * T) = (o + 1) * T := IntWalk.i64_in _ (by omega)
        have hw3 : IntKind.i64.wrap (z * (S : Int)) = z * (S : Int) := IntWalk.i64_in _ (by omega)
        have hle : decide ((o + 1) * T ≤ z * (S : Int)) = false := decide_eq_false (by omega)
        clear hz ho hb hf p1 p2
        go_wp2_with fail
        go_quiet (fail)
        go_wp2
        go_roundw
        case rel => exact ⟨i + 1, by omega, by go_num, hd.drewN _⟩
        case measure => simp [intOf]; omega
      · obtain rfl : i = nl := by omega
        go_wp2
        go_ret
        exact ⟨rfl, B.out.trans (hd.below _)⟩
  · clear w0
    go_enter Try.func7, Try.ntmps7
    go_wp2
    go_ret
    exact ⟨rfl, Below.refl _ _⟩

end Go.Proofs.Ytgcocdacofpglaa.fnSeatsFloor
