/-
  laws.FnRemainderOrder returns true for every code. No condition.
-/
import Derived.Test.YtmbhcgdapglbgaaGrp1
import Derived.Test.YtmbhcgdapglbgaaDrawSr
import Derived.Test.YtmbhcgdapglbgaaRemX
import Derived.Test.YtmbhcgdapglbgaaRemI
import Derived.Test.YtmbhcgdapglbgaaRemQ
namespace Go.Proofs.Ytmbhcgdapglbgaa.fnRemainderOrder
open Go.RowKit
set_option linter.unusedVariables false


set_option maxRecDepth 100000 in
set_option maxHeartbeats 8000000 in
/-- The law's walk: it returns true, and writes nothing that was there. -/
theorem walk (a0 : Option Addr) (len0 cap0 : Nat) (z0 : List Int) (w : World) (w0 : IsRow .u8 w a0 len0 cap0 z0) :
    Calls Try.prog 4 #[.slice a0 len0 cap0] w fun e w' => e = .returned (.bool true) ∧ Below w.heap.size w w' := by
  by_cases hl : len0 ≤ 1048576
  · skip
    have hcap := w0.cap
    have HB := Lib.hid w0.bytes; clear w0
    go_enter Try.func4, Try.ntmps4
    go_wp2_with fail
    refine (drawRem_any a0 len0 cap0 _ _ HB.out hcap (by omega)).mono ?_
    rintro e w1 ⟨zs, av, cv, s, lots, al, cl, rfl, ho, hz5, hol, hl5, hb⟩
    have B := Lib.hid hb
    obtain ⟨n, hn⟩ : ∃ n, zs.length = n := ⟨_, rfl⟩
    rw [hn] at ho hz5 ⊢
    have I := Lib.hid (IsInts.of_owned ho (by omega))
    have Hn := Lib.hid hn
    obtain ⟨nl, hnl⟩ : ∃ nl, lots.length = nl := ⟨_, rfl⟩
    rw [hnl] at hol hl5 ⊢
    have J := Lib.hid (IsInts.of_owned hol (by omega))
    have Hnl := Lib.hid hnl
    clear hb HB ho hol hn hnl
    obtain ⟨v, hv⟩ : ∃ v, okR zs s lots = v := ⟨_, rfl⟩
    obtain ⟨l, hL⟩ : ∃ l, remL zs s lots = l := ⟨_, rfl⟩
    have hx5 : l.length ≤ 5 := by rw [← hL]; exact remL_at5 (by rw [Hn.out]; exact hz5) _ _
    have HV := Lib.hid hv
    have HL := Lib.hid hL
    clear hv hL
    have hne : (v != v) = false := by cases v <;> rfl
    have heq : (v == v) = true := by cases v <;> rfl
    go_wp2_with fail
    refine (implRem_as _ n cv zs s _ nl cl lots l v _ I.out J.out HV.out HL.out).mono ?_
    rintro e w2 ⟨a1, c1, rfl, ho, hb⟩
    have I := Lib.hid (I.out.below hb)
    have J := Lib.hid (J.out.below hb)
    have I1 := Lib.hid (IsInts.of_owned ho (by omega))
    have B := Lib.hid (B.out.trans (hb.mono B.out.size))
    clear hb ho
    go_wp2_with fail
    refine (specRem_as _ n cv zs s _ nl cl lots l v _ I.out J.out HV.out HL.out).mono ?_
    rintro e w3 ⟨a2, c2, rfl, ho, hb⟩
    have I := Lib.hid (I.out.below hb)
    have J := Lib.hid (J.out.below hb)
    have I1 := Lib.hid (I1.out.below hb)
    have I2 := Lib.hid (IsInts.of_owned ho (by omega))
    have B := Lib.hid (B.out.trans (hb.mono B.out.size))
    clear hb ho
    go_wp2_with fail
    refine (sameInts_it2 _ _ _ l _ _ _ I1.out I2.out).mono ?_
    rintro e w4 ⟨rfl, hd⟩
    have hb := hd.below w3.heap.size
    have I := Lib.hid (I.out.below hb)
    have J := Lib.hid (J.out.below hb)
    have I1 := Lib.hid (I1.out.below hb)
    have I2 := Lib.hid (I2.out.below hb)
    have B := Lib.hid (B.out.trans (hb.mono B.out.size))
    clear hb hd
    cases v
    · skip
      go_wp2_with fail
      refine (sameInts_it2 _ _ _ l _ _ _ I1.out I2.out).mono ?_
      rintro e w5 ⟨rfl, hd⟩
      have hb := hd.below w4.heap.size
      have I := Lib.hid (I.out.below hb)
      have J := Lib.hid (J.out.below hb)
      have I1 := Lib.hid (I1.out.below hb)
      have I2 := Lib.hid (I2.out.below hb)
      have B := Lib.hid (B.out.trans (hb.mono B.out.size))
      clear hb hd
      go_wp2
      go_ret
      exact ⟨rfl, B.out⟩
    obtain ⟨hvo, hs20, hlo, hln⟩ := (okR_iff _ _ _).1 HV.out
    have HR : Hid (l = upL zs s lots (lfN zs s)) := by rw [Hid, ← HL.out, remL, if_pos HV.out]
    have hll : l.length = n := by rw [HR.out, upL_length]; exact Hn.out
    obtain rfl : nl = n := by rw [← Hnl.out, hln]; exact Hn.out
    have VO := Lib.hid hvo
    have LO := Lib.hid hlo
    have LN := Lib.hid hln
    have HLL := Lib.hid hll
    have hn1 : 1 ≤ nl ∧ nl ≤ 5 := by have := (voteB_iff zs).1 VO.out; rw [Hn.out] at this; exact this.1.2
    have XV : Hid (toB zs 99 nl = true) := by have := ((voteB_iff zs).1 VO.out).1.1; rw [Hn.out] at this; exact this
    have HE : Hid (∀ i, i < nl → 0 ≤ l[i]?.getD 0 ∧ l[i]?.getD 0 ≤ 21) := fun i hi => by rw [HR.out]; exact up_in VO.out hs20 LO.out LN.out (Nat.le_refl _) (by rw [Hn.out]; exact hi)
    rw [hll] at I1 I2 ⊢
    clear hvo hlo hln hll
    obtain ⟨T, hT⟩ : ∃ T, totI zs = T := ⟨_, rfl⟩
    have HT := Lib.hid hT
    have hTb : 0 < T ∧ T ≤ 495 := by have h1 := share_in VO.out hs20 (z := ((0 : Nat) : Int)) (by omega) (by rw [Hn.out]; omega); rw [hT] at h1; exact ⟨h1.1, h1.2.1⟩
    have HB1 : Hid (∀ x : Nat, x < nl → 0 ≤ zs[x]?.getD 0 ∧ zs[x]?.getD 0 ≤ 100000) := fun x hx => by have := toB_at XV.out hx; omega
    have hTz : (T == 0) = false := beq_eq_false_iff_ne.2 (by omega)
    clear hT
    go_wp2_with fail
    refine (lawSum_as _ nl cv zs T _ I.out (by omega) HB1.out HT.out).mono ?_
    rintro e w9 ⟨rfl, rfl⟩
    have HLO : Hid (∀ i : Nat, loF zs s (i : Int) = zs[i]?.getD 0 * s / T ∧ ovF zs s (i : Int) = zs[i]?.getD 0 * s % T) := fun i => by unfold loF lowI ovF overI; rw [seV_nat, HT.out]; exact ⟨rfl, rfl⟩
    have HP : Hid (∀ i k : Nat, i < nl → k < nl → zs[i]?.getD 0 * s / T < l[i]?.getD 0 → l[k]?.getD 0 = zs[k]?.getD 0 * s / T → zs[k]?.getD 0 * s % T < zs[i]?.getD 0 * s % T ∨ (zs[i]?.getD 0 * s % T = zs[k]?.getD 0 * s % T ∧ befL lots (k : Int) (i : Int) = false)) := fun i k hi hk h1 h2 => by have h := p91_first VO.out hs20 LO.out LN.out (i := i) (k := k) (by rw [Hn.out]; exact hi) (by rw [Hn.out]; exact hk) (by rw [← HR.out, (HLO.out i).1]; exact h1) (by rw [← HR.out, (HLO.out k).1]; exact h2); rw [(HLO.out i).2, (HLO.out k).2] at h; exact h
    obtain ⟨vb, vo, rfl, hvb, hvc⟩ := I.out.2.2.2 (by omega)
    have HVC := Lib.hid hvc
    obtain ⟨ob, oo, rfl, hob, hoc⟩ := I1.out.2.2.2 (by omega)
    have HOC := Lib.hid hoc
    clear hvc hoc
    go_wp2
    go_loopw [11, 12, 13, 14, 15, 16] (fun iv _ _ _ _ _ wr => ∃ i : Nat, i ≤ nl ∧ iv = .int .i64 (i : Int) ∧ Dr w4 wr) (fun iv _ _ _ _ _ _ => nl - (intOf iv).toNat)
    case atStart => exact ⟨0, Nat.zero_le _, rfl, Dr.refl _⟩
    case round =>
      rename World => wx
      obtain ⟨i, hi, rfl, hd⟩ := hrel
      by_cases hlt : i < nl
      · have hii : (i : Int) < (nl : Int) := by omega
        go_wp2
        go_loopw [12, 13, 14, 15, 16] (fun kv _ _ _ _ wr => ∃ k : Nat, k ≤ nl ∧ kv = .int .i64 (k : Int) ∧ Dr w4 wr) (fun kv _ _ _ _ _ => nl - (intOf kv).toNat)
        case atStart => exact ⟨0, Nat.zero_le _, rfl, hd⟩
        case round =>
          clear hd
          obtain ⟨k, hk, rfl, hd⟩ := hrel
          by_cases hkt : k < nl
          · have hki : (k : Int) < (nl : Int) := by omega
            have KVI := HVC.out i hlt
            have KOI := HOC.out i hlt
            have KVK := HVC.out k hkt
            have KOK := HOC.out k hkt
            have hp := HP.out i k hlt hkt
            have cvI := ((hd.below w4.heap.size).cell (p := ⟨vb, vo + i, none⟩) hvb).trans KVI
            have coI := ((hd.below w4.heap.size).cell (p := ⟨ob, oo + i, none⟩) hob).trans KOI
            have cvK := ((hd.below w4.heap.size).cell (p := ⟨vb, vo + k, none⟩) hvb).trans KVK
            have coK := ((hd.below w4.heap.size).cell (p := ⟨ob, oo + k, none⟩) hob).trans KOK
            have hzI := toB_at XV.out hlt
            obtain ⟨vI, evI⟩ : ∃ t, zs[i]?.getD 0 = t := ⟨_, rfl⟩
            rw [evI] at cvI KVI hzI hp
            have qI := mul_in (v := vI) (s := s) hzI hs20
            obtain ⟨pI, hpI⟩ : ∃ p, vI * s = p := ⟨_, rfl⟩
            rw [hpI] at qI hp
            have hwI : IntKind.i64.wrap (vI * s) = pI := by rw [hpI]; exact IntWalk.i64_in _ (by omega)
            obtain ⟨xI, hxI⟩ : ∃ x, pI / T = x := ⟨_, rfl⟩
            obtain ⟨yI, hyI⟩ : ∃ y, pI % T = y := ⟨_, rfl⟩
            rw [hxI, hyI] at hp
            have hyIb : 0 ≤ yI ∧ yI < T := by rw [← hyI]; exact ⟨Int.emod_nonneg _ (by omega), Int.emod_lt_of_pos _ hTb.1⟩
            have hxIb : 0 ≤ xI ∧ xI ≤ 1980 := by rw [← hxI]; exact ⟨Int.ediv_nonneg qI.1 (by omega), Int.le_trans (Int.ediv_le_self _ qI.1) qI.2⟩
            have hrI : pI.tmod T = yI := by rw [← hyI]; exact Int.tmod_eq_emod_of_nonneg (by omega)
            have hdI : pI.tdiv T = xI := by rw [← hxI]; exact Int.tdiv_eq_ediv_of_nonneg (by omega)
            have hwyI : IntKind.i64.wrap yI = yI := IntWalk.i64_in _ (by omega)
            have hwxI : IntKind.i64.wrap xI = xI := IntWalk.i64_in _ (by omega)
            clear hzI evI hpI hxI hyI
            have hzK := toB_at XV.out hkt
            obtain ⟨vK, evK⟩ : ∃ t, zs[k]?.getD 0 = t := ⟨_, rfl⟩
            rw [evK] at cvK KVK hzK hp
            have qK := mul_in (v := vK) (s := s) hzK hs20
            obtain ⟨pK, hpK⟩ : ∃ p, vK * s = p := ⟨_, rfl⟩
            rw [hpK] at qK hp
            have hwK : IntKind.i64.wrap (vK * s) = pK := by rw [hpK]; exact IntWalk.i64_in _ (by omega)
            obtain ⟨xK, hxK⟩ : ∃ x, pK / T = x := ⟨_, rfl⟩
            obtain ⟨yK, hyK⟩ : ∃ y, pK % T = y := ⟨_, rfl⟩
            rw [hxK, hyK] at hp
            have hyKb : 0 ≤ yK ∧ yK < T := by rw [← hyK]; exact ⟨Int.emod_nonneg _ (by omega), Int.emod_lt_of_pos _ hTb.1⟩
            have hxKb : 0 ≤ xK ∧ xK ≤ 1980 := by rw [← hxK]; exact ⟨Int.ediv_nonneg qK.1 (by omega), Int.le_trans (Int.ediv_le_self _ qK.1) qK.2⟩
            have hrK : pK.tmod T = yK := by rw [← hyK]; exact Int.tmod_eq_emod_of_nonneg (by omega)
            have hdK : pK.tdiv T = xK := by rw [← hxK]; exact Int.tdiv_eq_ediv_of_nonneg (by omega)
            have hwyK : IntKind.i64.wrap yK = yK := IntWalk.i64_in _ (by omega)
            have hwxK : IntKind.i64.wrap xK = xK := IntWalk.i64_in _ (by omega)
            clear hzK evK hpK hxK hyK
            obtain ⟨oI, eoI⟩ : ∃ t, l[i]?.getD 0 = t := ⟨_, rfl⟩
            obtain ⟨oK, eoK⟩ : ∃ t, l[k]?.getD 0 = t := ⟨_, rfl⟩
            rw [eoI, eoK] at hp
            rw [eoI] at coI
            rw [eoK] at coK KOK
            have KVI := Lib.hid KVI
            have KVK := Lib.hid KVK
            have KOK := Lib.hid KOK
            clear eoI eoK KOI
            by_cases h1 : xI < oI
            · have d1 : decide (xI < oI) = true := decide_eq_true h1
              by_cases h2 : oK = xK
              · have d2 : (oK == xK) = true := by simp [h2]
                rcases hp h1 h2 with h3 | ⟨h3, hbf⟩
                · have d3 : decide (yI < yK) = false := decide_eq_false (by omega)
                  have d4 : (yI == yK) = false := by simp; omega
                  clear hp h1 h2 h3
                  go_wp2_with fail
                  go_quiet (fail)
                  obtain ⟨wy, hwy0⟩ : ∃ wy, wr.drewN nq = wy := ⟨_, rfl⟩
                  have hdy : Dr w4 wy := hwy0 ▸ hd.drewN _
                  rw [hwy0]
                  clear hwy0
                  have cvI := ((hdy.below w4.heap.size).cell (p := ⟨vb, vo + i, none⟩) hvb).trans KVI.out
                  have cvK := ((hdy.below w4.heap.size).cell (p := ⟨vb, vo + k, none⟩) hvb).trans KVK.out
                  have coK := ((hdy.below w4.heap.size).cell (p := ⟨ob, oo + k, none⟩) hob).trans KOK.out
                  go_wp2_with fail
                  go_quiet (fail)
                  
                  obtain ⟨wz, hwz0⟩ : ∃ wz, wy.drewN nq = wz := ⟨_, rfl⟩
                  have hdz : Dr w4 wz := hwz0 ▸ hdy.drewN _
                  rw [hwz0]
                  clear hwz0
                  have cvI := ((hdz.below w4.heap.size).cell (p := ⟨vb, vo + i, none⟩) hvb).trans KVI.out
                  have cvK := ((hdz.below w4.heap.size).cell (p := ⟨vb, vo + k, none⟩) hvb).trans KVK.out
                  go_wp2
                  go_roundw
                  case rel => exact ⟨k + 1, by omega, by go_num, hdz⟩
                  case measure => simp [intOf]; omega
                · have d3 : decide (yI < yK) = false := decide_eq_false (by omega)
                  have d4 : (yI == yK) = true := by simp; omega
                  have HBF := Lib.hid hbf
                  clear hp h1 h2 h3 hbf
                  go_wp2_with fail
                  go_quiet (fail)
                  obtain ⟨wy, hwy0⟩ : ∃ wy, wr.drewN nq = wy := ⟨_, rfl⟩
                  have hdy : Dr w4 wy := hwy0 ▸ hd.drewN _
                  rw [hwy0]
                  clear hwy0
                  have cvI := ((hdy.below w4.heap.size).cell (p := ⟨vb, vo + i, none⟩) hvb).trans KVI.out
                  have cvK := ((hdy.below w4.heap.size).cell (p := ⟨vb, vo + k, none⟩) hvb).trans KVK.out
                  have coK := ((hdy.below w4.heap.size).cell (p := ⟨ob, oo + k, none⟩) hob).trans KOK.out
                  go_wp2_with fail
                  go_quiet (fail)
                  
                  obtain ⟨wz, hwz0⟩ : ∃ wz, wy.drewN nq = wz := ⟨_, rfl⟩
                  have hdz : Dr w4 wz := hwz0 ▸ hdy.drewN _
                  rw [hwz0]
                  clear hwz0
                  have cvI := ((hdz.below w4.heap.size).cell (p := ⟨vb, vo + i, none⟩) hvb).trans KVI.out
                  have cvK := ((hdz.below w4.heap.size).cell (p := ⟨vb, vo + k, none⟩) hvb).trans KVK.out
                  have JW := Lib.hid (J.out.dr hdz)
                  go_wp2_with fail
                  refine (before_as _ _ _ lots (k : Int) (i : Int) false _ JW.out HBF.out).mono ?_
                  rintro e w' ⟨rfl, rfl⟩
                  go_wp2
                  go_roundw
                  case rel => exact ⟨k + 1, by omega, by go_num, hdz⟩
                  case measure => simp [intOf]; omega
              · have d2 : (oK == xK) = false := by simp [h2]
                clear hp h1 h2
                go_wp2_with fail
                go_quiet (fail)
                obtain ⟨wy, hwy0⟩ : ∃ wy, wr.drewN nq = wy := ⟨_, rfl⟩
                have hdy : Dr w4 wy := hwy0 ▸ hd.drewN _
                rw [hwy0]
                clear hwy0
                have cvI := ((hdy.below w4.heap.size).cell (p := ⟨vb, vo + i, none⟩) hvb).trans KVI.out
                have cvK := ((hdy.below w4.heap.size).cell (p := ⟨vb, vo + k, none⟩) hvb).trans KVK.out
                have coK := ((hdy.below w4.heap.size).cell (p := ⟨ob, oo + k, none⟩) hob).trans KOK.out
                go_wp2_with fail
                go_quiet (fail)
                
                obtain ⟨wz, hwz0⟩ : ∃ wz, wy.drewN nq = wz := ⟨_, rfl⟩
                have hdz : Dr w4 wz := hwz0 ▸ hdy.drewN _
                rw [hwz0]
                clear hwz0
                have cvI := ((hdz.below w4.heap.size).cell (p := ⟨vb, vo + i, none⟩) hvb).trans KVI.out
                have cvK := ((hdz.below w4.heap.size).cell (p := ⟨vb, vo + k, none⟩) hvb).trans KVK.out
                go_wp2
                go_roundw
                case rel => exact ⟨k + 1, by omega, by go_num, hdz⟩
                case measure => simp [intOf]; omega
            · have d1 : decide (xI < oI) = false := decide_eq_false h1
              clear hp h1
              go_wp2_with fail
              go_quiet (fail)
              obtain ⟨wy, hwy0⟩ : ∃ wy, wr.drewN nq = wy := ⟨_, rfl⟩
              have hdy : Dr w4 wy := hwy0 ▸ hd.drewN _
              rw [hwy0]
              clear hwy0
              have cvI := ((hdy.below w4.heap.size).cell (p := ⟨vb, vo + i, none⟩) hvb).trans KVI.out
              have cvK := ((hdy.below w4.heap.size).cell (p := ⟨vb, vo + k, none⟩) hvb).trans KVK.out
              have coK := ((hdy.below w4.heap.size).cell (p := ⟨ob, oo + k, none⟩) hob).trans KOK.out
              go_wp2_with fail
              go_quiet (fail)
              
              obtain ⟨wz, hwz0⟩ : ∃ wz, wy.drewN nq = wz := ⟨_, rfl⟩
              have hdz : Dr w4 wz := hwz0 ▸ hdy.drewN _
              rw [hwz0]
              clear hwz0
              have cvI := ((hdz.below w4.heap.size).cell (p := ⟨vb, vo + i, none⟩) hvb).trans KVI.out
              have cvK := ((hdz.below w4.heap.size).cell (p := ⟨vb, vo + k, none⟩) hvb).trans KVK.out
              go_wp2
              go_roundw
              case rel => exact ⟨k + 1, by omega, by go_num, hdz⟩
              case measure => simp [intOf]; omega
          · obtain rfl : k = nl := by omega
            go_wp2
            go_roundw
            case rel => exact ⟨i + 1, by omega, by go_num, hd⟩
            case measure => simp [intOf]; omega
      · obtain rfl : i = nl := by omega
        go_wp2
        go_ret
        exact ⟨rfl, B.out.trans (hd.below _)⟩
  · clear w0
    go_enter Try.func4, Try.ntmps4
    go_wp2
    go_ret
    exact ⟨rfl, Below.refl _ _⟩

end Go.Proofs.Ytmbhcgdapglbgaa.fnRemainderOrder
