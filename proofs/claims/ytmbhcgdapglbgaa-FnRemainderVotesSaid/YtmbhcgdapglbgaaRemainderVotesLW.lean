/-
  laws.FnRemainderVotes returns true for every code. No condition.
-/
import Derived.Test.YtmbhcgdapglbgaaGrp1
import Derived.Test.YtmbhcgdapglbgaaDrawSr
import Derived.Test.YtmbhcgdapglbgaaRemX
import Derived.Test.YtmbhcgdapglbgaaRemI
import Derived.Test.YtmbhcgdapglbgaaRemQ
namespace Go.Proofs.Ytmbhcgdapglbgaa.fnRemainderVotes
open Go.RowKit
set_option linter.unusedVariables false


set_option maxRecDepth 100000 in
set_option maxHeartbeats 2000000 in
/-- The law's walk: it returns true, and writes nothing that was there. -/
theorem walk (a0 : Option Addr) (len0 cap0 : Nat) (z0 : List Int) (w : World) (w0 : IsRow .u8 w a0 len0 cap0 z0) :
    Calls Try.prog 5 #[.slice a0 len0 cap0] w fun e w' => e = .returned (.bool true) ∧ Below w.heap.size w w' := by
  by_cases hl : len0 ≤ 1048576
  · skip
    have hcap := w0.cap
    have HB := Lib.hid w0.bytes; clear w0
    go_enter Try.func5, Try.ntmps5
    go_wp2_with fail
    refine (drawRem_any a0 len0 cap0 _ _ HB.out hcap (by omega)).mono ?_
    rintro e w1 ⟨zs, av, cv, s, lots, al, cl, rfl, ho, hz5, hol, hl5, hb⟩
    have B := Lib.hid hb
    obtain ⟨n, hn⟩ : ∃ n, zs.length = n := ⟨_, rfl⟩
    rw [hn] at ho hz5 ⊢
    have I := Lib.hid (IsInts.of_owned ho (by omega))
    have Hn := Lib.hid hn
    obtain ⟨nl, hnl⟩ : ∃ nl, lots.length = nl := ⟨_, rfl⟩
    rw [hnl] at hol hl5 ⊢
    have J := Lib.hid (IsInts.of_owned hol (by omega))
    have Hnl := Lib.hid hnl
    clear hb HB ho hol hn hnl
    obtain ⟨v, hv⟩ : ∃ v, okR zs s lots = v := ⟨_, rfl⟩
    obtain ⟨l, hL⟩ : ∃ l, remL zs s lots = l := ⟨_, rfl⟩
    have hx5 : l.length ≤ 5 := by rw [← hL]; exact remL_at5 (by rw [Hn.out]; exact hz5) _ _
    have HV := Lib.hid hv
    have HL := Lib.hid hL
    clear hv hL
    have hne : (v != v) = false := by cases v <;> rfl
    have heq : (v == v) = true := by cases v <;> rfl
    go_wp2_with fail
    refine (implRem_as _ n cv zs s _ nl cl lots l v _ I.out J.out HV.out HL.out).mono ?_
    rintro e w2 ⟨a1, c1, rfl, ho, hb⟩
    have I := Lib.hid (I.out.below hb)
    have J := Lib.hid (J.out.below hb)
    have I1 := Lib.hid (IsInts.of_owned ho (by omega))
    have B := Lib.hid (B.out.trans (hb.mono B.out.size))
    clear hb ho
    go_wp2_with fail
    refine (specRem_as _ n cv zs s _ nl cl lots l v _ I.out J.out HV.out HL.out).mono ?_
    rintro e w3 ⟨a2, c2, rfl, ho, hb⟩
    have I := Lib.hid (I.out.below hb)
    have J := Lib.hid (J.out.below hb)
    have I1 := Lib.hid (I1.out.below hb)
    have I2 := Lib.hid (IsInts.of_owned ho (by omega))
    have B := Lib.hid (B.out.trans (hb.mono B.out.size))
    clear hb ho
    go_wp2_with fail
    refine (sameInts_it2 _ _ _ l _ _ _ I1.out I2.out).mono ?_
    rintro e w4 ⟨rfl, hd⟩
    have hb := hd.below w3.heap.size
    have I := Lib.hid (I.out.below hb)
    have J := Lib.hid (J.out.below hb)
    have I1 := Lib.hid (I1.out.below hb)
    have I2 := Lib.hid (I2.out.below hb)
    have B := Lib.hid (B.out.trans (hb.mono B.out.size))
    clear hb hd
    cases v
    · skip
      go_wp2_with fail
      refine (sameInts_it2 _ _ _ l _ _ _ I1.out I2.out).mono ?_
      rintro e w5 ⟨rfl, hd⟩
      have hb := hd.below w4.heap.size
      have I := Lib.hid (I.out.below hb)
      have J := Lib.hid (J.out.below hb)
      have I1 := Lib.hid (I1.out.below hb)
      have I2 := Lib.hid (I2.out.below hb)
      have B := Lib.hid (B.out.trans (hb.mono B.out.size))
      clear hb hd
      go_wp2
      go_ret
      exact ⟨rfl, B.out⟩
    obtain ⟨hvo, hs20, hlo, hln⟩ := (okR_iff _ _ _).1 HV.out
    have HR : Hid (l = upL zs s lots (lfN zs s)) := by rw [Hid, ← HL.out, remL, if_pos HV.out]
    have hll : l.length = n := by rw [HR.out, upL_length]; exact Hn.out
    obtain rfl : nl = n := by rw [← Hnl.out, hln]; exact Hn.out
    have VO := Lib.hid hvo
    have LO := Lib.hid hlo
    have LN := Lib.hid hln
    have HLL := Lib.hid hll
    have hn1 : 1 ≤ nl ∧ nl ≤ 5 := by have := (voteB_iff zs).1 VO.out; rw [Hn.out] at this; exact this.1.2
    have XV : Hid (toB zs 99 nl = true) := by have := ((voteB_iff zs).1 VO.out).1.1; rw [Hn.out] at this; exact this
    have HE : Hid (∀ i, i < nl → 0 ≤ l[i]?.getD 0 ∧ l[i]?.getD 0 ≤ 21) := fun i hi => by rw [HR.out]; exact up_in VO.out hs20 LO.out LN.out (Nat.le_refl _) (by rw [Hn.out]; exact hi)
    rw [hll] at I1 I2 ⊢
    clear hvo hlo hln hll
    have HA : Hid (∀ i k, i < nl → k < nl → zs[k]?.getD 0 < zs[i]?.getD 0 → l[k]?.getD 0 ≤ l[i]?.getD 0) := fun i k hi hk h => by rw [HR.out]; exact p92_votes VO.out hs20 LO.out LN.out (by rw [Hn.out]; exact hi) (by rw [Hn.out]; exact hk) h
    obtain ⟨vb, vo, rfl, hvb, hvc⟩ := I.out.2.2.2 (by omega)
    have HVC := Lib.hid hvc
    obtain ⟨ob, oo, rfl, hob, hoc⟩ := I1.out.2.2.2 (by omega)
    have HOC := Lib.hid hoc
    clear hvc hoc
    go_wp2
    go_loopw [10, 11] (fun iv _ wr => ∃ i : Nat, i ≤ nl ∧ iv = .int .i64 (i : Int) ∧ Dr w4 wr) (fun iv _ _ => nl - (intOf iv).toNat)
    case atStart => exact ⟨0, Nat.zero_le _, rfl, Dr.refl _⟩
    case round =>
      rename World => wx
      obtain ⟨i, hi, rfl, hd⟩ := hrel
      by_cases hlt : i < nl
      · have hii : (i : Int) < (nl : Int) := by omega
        go_wp2
        go_loopw [11] (fun kv wr => ∃ k : Nat, k ≤ nl ∧ kv = .int .i64 (k : Int) ∧ Dr w4 wr) (fun kv _ => nl - (intOf kv).toNat)
        case atStart => exact ⟨0, Nat.zero_le _, rfl, hd⟩
        case round =>
          clear hd
          obtain ⟨k, hk, rfl, hd⟩ := hrel
          by_cases hkt : k < nl
          · have hki : (k : Int) < (nl : Int) := by omega
            have cvi := ((hd.below w4.heap.size).cell (p := ⟨vb, vo + i, none⟩) hvb).trans (HVC.out i hlt)
            have coi := ((hd.below w4.heap.size).cell (p := ⟨ob, oo + i, none⟩) hob).trans (HOC.out i hlt)
            have cvk := ((hd.below w4.heap.size).cell (p := ⟨vb, vo + k, none⟩) hvb).trans (HVC.out k hkt)
            have cok := ((hd.below w4.heap.size).cell (p := ⟨ob, oo + k, none⟩) hob).trans (HOC.out k hkt)
            have ha := HA.out i k hlt hkt
            obtain ⟨vi, evi⟩ : ∃ t, zs[i]?.getD 0 = t := ⟨_, rfl⟩
            obtain ⟨vk, evk⟩ : ∃ t, zs[k]?.getD 0 = t := ⟨_, rfl⟩
            obtain ⟨oi, eoi⟩ : ∃ t, l[i]?.getD 0 = t := ⟨_, rfl⟩
            obtain ⟨ok, eok⟩ : ∃ t, l[k]?.getD 0 = t := ⟨_, rfl⟩
            rw [evi, evk, eoi, eok] at ha
            rw [evi] at cvi
            rw [evk] at cvk
            rw [eoi] at coi
            rw [eok] at cok
            clear evi evk eoi eok
            by_cases h1 : vk < vi
            · have d1 : decide (vk < vi) = true := decide_eq_true h1
              have d2 : decide (oi < ok) = false := decide_eq_false (by have := ha h1; omega)
              clear ha h1
              go_wp2_with fail
              go_quiet (fail)
              go_wp2
              go_roundw
              case rel => exact ⟨k + 1, by omega, by go_num, hd.drewN _⟩
              case measure => simp [intOf]; omega
            · have d1 : decide (vk < vi) = false := decide_eq_false h1
              clear ha h1
              go_wp2_with fail
              go_quiet (fail)
              go_wp2
              go_roundw
              case rel => exact ⟨k + 1, by omega, by go_num, hd.drewN _⟩
              case measure => simp [intOf]; omega
          · obtain rfl : k = nl := by omega
            go_wp2
            go_roundw
            case rel => exact ⟨i + 1, by omega, by go_num, hd⟩
            case measure => simp [intOf]; omega
      · obtain rfl : i = nl := by omega
        go_wp2
        go_ret
        exact ⟨rfl, B.out.trans (hd.below _)⟩
  · clear w0
    go_enter Try.func5, Try.ntmps5
    go_wp2
    go_ret
    exact ⟨rfl, Below.refl _ _⟩

end Go.Proofs.Ytmbhcgdapglbgaa.fnRemainderVotes
