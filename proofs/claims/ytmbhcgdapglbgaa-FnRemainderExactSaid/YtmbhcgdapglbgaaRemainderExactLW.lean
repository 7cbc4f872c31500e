/-
  laws.FnRemainderExact returns true for every code. No condition.
-/
import Derived.Test.YtmbhcgdapglbgaaGrp1
import Derived.Test.YtmbhcgdapglbgaaDrawSr
import Derived.Test.YtmbhcgdapglbgaaRemX
import Derived.Test.YtmbhcgdapglbgaaRemI
import Derived.Test.YtmbhcgdapglbgaaRemQ
namespace Go.Proofs.Ytmbhcgdapglbgaa.fnRemainderExact
open Go.RowKit
set_option linter.unusedVariables false


set_option maxRecDepth 100000 in
set_option maxHeartbeats 2000000 in
/-- The law's walk: it returns true, and writes nothing that was there. -/
theorem walk (a0 : Option Addr) (len0 cap0 : Nat) (z0 : List Int) (w : World) (w0 : IsRow .u8 w a0 len0 cap0 z0) :
    Calls Try.prog 6 #[.slice a0 len0 cap0] w fun e w' => e = .returned (.bool true) ∧ Below w.heap.size w w' := by
  by_cases hl : len0 ≤ 1048576
  · skip
    have hcap := w0.cap
    have HB := Lib.hid w0.bytes; clear w0
    go_enter Try.func6, Try.ntmps6
    go_wp2_with fail
    refine (drawRem_any a0 len0 cap0 _ _ HB.out hcap (by omega)).mono ?_
    rintro e w1 ⟨zs, av, cv, s, lots, al, cl, rfl, ho, hz5, hol, hl5, hb⟩
    have B := Lib.hid hb
    obtain ⟨n, hn⟩ : ∃ n, zs.length = n := ⟨_, rfl⟩
    rw [hn] at ho hz5 ⊢
    have I := Lib.hid (IsInts.of_owned ho (by omega))
    have Hn := Lib.hid hn
    obtain ⟨nl, hnl⟩ : ∃ nl, lots.length = nl := ⟨_, rfl⟩
    rw [hnl] at hol hl5 ⊢
    have J := Lib.hid (IsInts.of_owned hol (by omega))
    have Hnl := Lib.hid hnl
    clear hb HB ho hol hn hnl
    obtain ⟨v, hv⟩ : ∃ v, okR zs s lots = v := ⟨_, rfl⟩
    obtain ⟨l, hL⟩ : ∃ l, remL zs s lots = l := ⟨_, rfl⟩
    have hx5 : l.length ≤ 5 := by rw [← hL]; exact remL_at5 (by rw [Hn.out]; exact hz5) _ _
    have HV := Lib.hid hv
    have HL := Lib.hid hL
    clear hv hL
    have hne : (v != v) = false := by cases v <;> rfl
    have heq : (v == v) = true := by cases v <;> rfl
    go_wp2_with fail
    refine (implRem_as _ n cv zs s _ nl cl lots l v _ I.out J.out HV.out HL.out).mono ?_
    rintro e w2 ⟨a1, c1, rfl, ho, hb⟩
    have I := Lib.hid (I.out.below hb)
    have J := Lib.hid (J.out.below hb)
    have I1 := Lib.hid (IsInts.of_owned ho (by omega))
    have B := Lib.hid (B.out.trans (hb.mono B.out.size))
    clear hb ho
    go_wp2_with fail
    refine (specRem_as _ n cv zs s _ nl cl lots l v _ I.out J.out HV.out HL.out).mono ?_
    rintro e w3 ⟨a2, c2, rfl, ho, hb⟩
    have I := Lib.hid (I.out.below hb)
    have J := Lib.hid (J.out.below hb)
    have I1 := Lib.hid (I1.out.below hb)
    have I2 := Lib.hid (IsInts.of_owned ho (by omega))
    have B := Lib.hid (B.out.trans (hb.mono B.out.size))
    clear hb ho
    go_wp2_with fail
    refine (sameInts_it2 _ _ _ l _ _ _ I1.out I2.out).mono ?_
    rintro e w4 ⟨rfl, hd⟩
    have hb := hd.below w3.heap.size
    have I := Lib.hid (I.out.below hb)
    have J := Lib.hid (J.out.below hb)
    have I1 := Lib.hid (I1.out.below hb)
    have I2 := Lib.hid (I2.out.below hb)
    have B := Lib.hid (B.out.trans (hb.mono B.out.size))
    clear hb hd
    cases v
    · skip
      go_wp2_with fail
      refine (sameInts_it2 _ _ _ l _ _ _ I1.out I2.out).mono ?_
      rintro e w5 ⟨rfl, hd⟩
      have hb := hd.below w4.heap.size
      have I := Lib.hid (I.out.below hb)
      have J := Lib.hid (J.out.below hb)
      have I1 := Lib.hid (I1.out.below hb)
      have I2 := Lib.hid (I2.out.below hb)
      have B := Lib.hid (B.out.trans (hb.mono B.out.size))
      clear hb hd
      go_wp2
      go_ret
      exact ⟨rfl, B.out⟩
    obtain ⟨hvo, hs20, hlo, hln⟩ := (okR_iff _ _ _).1 HV.out
    have HR : Hid (l = upL zs s lots (lfN zs s)) := by rw [Hid, ← HL.out, remL, if_pos HV.out]
    have hll : l.length = n := by rw [HR.out, upL_length]; exact Hn.out
    obtain rfl : nl = n := by rw [← Hnl.out, hln]; exact Hn.out
    have VO := Lib.hid hvo
    have LO := Lib.hid hlo
    have LN := Lib.hid hln
    have HLL := Lib.hid hll
    have hn1 : 1 ≤ nl ∧ nl ≤ 5 := by have := (voteB_iff zs).1 VO.out; rw [Hn.out] at this; exact this.1.2
    have XV : Hid (toB zs 99 nl = true) := by have := ((voteB_iff zs).1 VO.out).1.1; rw [Hn.out] at this; exact this
    have HE : Hid (∀ i, i < nl → 0 ≤ l[i]?.getD 0 ∧ l[i]?.getD 0 ≤ 21) := fun i hi => by rw [HR.out]; exact up_in VO.out hs20 LO.out LN.out (Nat.le_refl _) (by rw [Hn.out]; exact hi)
    rw [hll] at I1 I2 ⊢
    clear hvo hlo hln hll
    obtain ⟨T, hT⟩ : ∃ T, totI zs = T := ⟨_, rfl⟩
    have HT := Lib.hid hT
    have hTb : 0 < T ∧ T ≤ 495 := by have h1 := share_in VO.out hs20 (z := ((0 : Nat) : Int)) (by omega) (by rw [Hn.out]; omega); rw [hT] at h1; exact ⟨h1.1, h1.2.1⟩
    have HB1 : Hid (∀ x : Nat, x < nl → 0 ≤ zs[x]?.getD 0 ∧ zs[x]?.getD 0 ≤ 100000) := fun x hx => by have := toB_at XV.out hx; omega
    have hTz : (T == 0) = false := beq_eq_false_iff_ne.2 (by omega)
    clear hT
    go_wp2_with fail
    refine (lawSum_as _ nl cv zs T _ I.out (by omega) HB1.out HT.out).mono ?_
    rintro e w9 ⟨rfl, rfl⟩
    have HA : Hid ((∀ k, k < nl → zs[k]?.getD 0 * s % T = 0) → ∀ i, i < nl → l[i]?.getD 0 * T = zs[i]?.getD 0 * s) := fun hz i hi => by rw [HR.out, ← HT.out]; exact p93_whole VO.out hs20 LO.out LN.out (fun k hk => by rw [HT.out]; exact hz k (by rw [← Hn.out]; exact hk)) (by rw [Hn.out]; exact hi)
    obtain ⟨vb, vo, rfl, hvb, hvc⟩ := I.out.2.2.2 (by omega)
    have HVC := Lib.hid hvc
    obtain ⟨ob, oo, rfl, hob, hoc⟩ := I1.out.2.2.2 (by omega)
    have HOC := Lib.hid hoc
    clear hvc hoc
    go_wp2
    go_loop [11] (fun iv => ∃ i : Nat, i ≤ nl ∧ iv = .int .i64 (i : Int) ∧ Hid (∀ k, k < i → zs[k]?.getD 0 * s % T = 0)) (fun iv => nl - (intOf iv).toNat)
    case atStart => exact ⟨0, Nat.zero_le _, rfl, fun k hk => absurd hk (Nat.not_lt_zero _)⟩
    case round =>
      obtain ⟨i, hi, rfl, hA⟩ := hrel
      by_cases hlt : i < nl
      · have hii : (i : Int) < (nl : Int) := by omega
        have cvI := HVC.out i hlt
        have hz99 := toB_at XV.out hlt
        obtain ⟨vI, evI⟩ : ∃ t, zs[i]?.getD 0 = t := ⟨_, rfl⟩
        rw [evI] at cvI hz99
        have q4I := mul_in (v := vI) (s := s) hz99 hs20
        obtain ⟨pI, hpI⟩ : ∃ p, vI * s = p := ⟨_, rfl⟩
        rw [hpI] at q4I
        have hwI : IntKind.i64.wrap (vI * s) = pI := by rw [hpI]; exact IntWalk.i64_in _ (by omega)
        clear hz99
        obtain ⟨y, hy⟩ : ∃ y, pI % T = y := ⟨_, rfl⟩
        have hyb : 0 ≤ y ∧ y < T := by rw [← hy]; exact ⟨Int.emod_nonneg _ (by omega), Int.emod_lt_of_pos _ hTb.1⟩
        have hr : pI.tmod T = y := by rw [← hy]; exact Int.tmod_eq_emod_of_nonneg (by omega)
        have hwy : IntKind.i64.wrap y = y := IntWalk.i64_in _ (by omega)
        have HY : Hid (zs[i]?.getD 0 * s % T = y) := by rw [Hid, evI, hpI]; exact hy
        clear hy evI hpI
        cases hy0 : (y != 0)
        · have HN : Hid (∀ k, k < i + 1 → zs[k]?.getD 0 * s % T = 0) := fun k hk => by
            by_cases e : k = i
            · subst e; rw [HY.out]; simpa using hy0
            · exact hA.out k (by omega)
          go_wp2
          go_round
          case rel => exact ⟨i + 1, by omega, by go_num, HN⟩
          case measure => simp [intOf]; omega
        · go_wp2
          go_ret
          exact ⟨rfl, B.out⟩
      · obtain rfl : i = nl := by omega
        have HQ := Lib.hid (HA.out hA.out)
        go_wp2
        go_loopw [12] (fun iv wr => ∃ k : Nat, k ≤ i ∧ iv = .int .i64 (k : Int) ∧ Dr w4 wr) (fun iv _ => i - (intOf iv).toNat)
        case atStart => exact ⟨0, Nat.zero_le _, rfl, Dr.refl _⟩
        case round =>
          obtain ⟨k, hk, rfl, hd⟩ := hrel
          by_cases hlt : k < i
          · have hii : (k : Int) < (i : Int) := by omega
            have cvI := ((hd.below w4.heap.size).cell (p := ⟨vb, vo + k, none⟩) hvb).trans (HVC.out k hlt)
            have co := ((hd.below w4.heap.size).cell (p := ⟨ob, oo + k, none⟩) hob).trans (HOC.out k hlt)
            have hq := HQ.out k hlt
            have hb := HE.out k hlt
            have hz99 := toB_at XV.out hlt
            obtain ⟨vI, evI⟩ : ∃ t, zs[k]?.getD 0 = t := ⟨_, rfl⟩
            rw [evI] at cvI hz99
            have q4I := mul_in (v := vI) (s := s) hz99 hs20
            obtain ⟨pI, hpI⟩ : ∃ p, vI * s = p := ⟨_, rfl⟩
            rw [hpI] at q4I
            have hwI : IntKind.i64.wrap (vI * s) = pI := by rw [hpI]; exact IntWalk.i64_in _ (by omega)
            clear hz99
            obtain ⟨o, eo⟩ : ∃ t, l[k]?.getD 0 = t := ⟨_, rfl⟩
            rw [eo] at co hq hb
            rw [evI, hpI] at hq
            have hwo : IntKind.i64.wrap (o * T) = pI := by rw [hq]; exact IntWalk.i64_in _ (by omega)
            have hne : (pI != pI) = false := by simp
            clear hq eo evI hpI hb
            go_wp2_with fail
            go_quiet (fail)
            go_wp2
            go_roundw
            case rel => exact ⟨k + 1, by omega, by go_num, hd.drewN _⟩
            case measure => simp [intOf]; omega
          · obtain rfl : k = i := by omega
            go_wp2
            go_ret
            exact ⟨rfl, B.out.trans (hd.below _)⟩
  · clear w0
    go_enter Try.func6, Try.ntmps6
    go_wp2
    go_ret
    exact ⟨rfl, Below.refl _ _⟩

end Go.Proofs.Ytmbhcgdapglbgaa.fnRemainderExact
