/-
  laws.FnRemainder returns true for every code. No condition.
-/
import Derived.Test.YtmbhcgdapglbgaaGrp1
import Derived.Test.YtmbhcgdapglbgaaDrawSr
import Derived.Test.YtmbhcgdapglbgaaRemX
import Derived.Test.YtmbhcgdapglbgaaRemI
import Derived.Test.YtmbhcgdapglbgaaRemQ
namespace Go.Proofs.Ytmbhcgdapglbgaa.fnRemainder
open Go.RowKit
set_option linter.unusedVariables false


set_option maxRecDepth 100000 in
set_option maxHeartbeats 2000000 in
/-- The law's walk: it returns true, and writes nothing that was there. -/
theorem walk (a0 : Option Addr) (len0 cap0 : Nat) (z0 : List Int) (w : World) (w0 : IsRow .u8 w a0 len0 cap0 z0) :
    Calls Try.prog 3 #[.slice a0 len0 cap0] w fun e w' => e = .returned (.bool true) ∧ Below w.heap.size w w' := by
  by_cases hl : len0 ≤ 1048576
  · skip
    have hcap := w0.cap
    have HB := Lib.hid w0.bytes; clear w0
    go_enter Try.func3, Try.ntmps3
    go_wp2_with fail
    refine (drawRem_any a0 len0 cap0 _ _ HB.out hcap (by omega)).mono ?_
    rintro e w1 ⟨zs, av, cv, s, lots, al, cl, rfl, ho, hz5, hol, hl5, hb⟩
    have B := Lib.hid hb
    obtain ⟨n, hn⟩ : ∃ n, zs.length = n := ⟨_, rfl⟩
    rw [hn] at ho hz5 ⊢
    have I := Lib.hid (IsInts.of_owned ho (by omega))
    have Hn := Lib.hid hn
    obtain ⟨nl, hnl⟩ : ∃ nl, lots.length = nl := ⟨_, rfl⟩
    rw [hnl] at hol hl5 ⊢
    have J := Lib.hid (IsInts.of_owned hol (by omega))
    have Hnl := Lib.hid hnl
    clear hb HB ho hol hn hnl
    obtain ⟨v, hv⟩ : ∃ v, okR zs s lots = v := ⟨_, rfl⟩
    obtain ⟨l, hL⟩ : ∃ l, remL zs s lots = l := ⟨_, rfl⟩
    have hx5 : l.length ≤ 5 := by rw [← hL]; exact remL_at5 (by rw [Hn.out]; exact hz5) _ _
    have HV := Lib.hid hv
    have HL := Lib.hid hL
    clear hv hL
    have hne : (v != v) = false := by cases v <;> rfl
    have heq : (v == v) = true := by cases v <;> rfl
    go_wp2_with fail
    refine (implRem_as _ n cv zs s _ nl cl lots l v _ I.out J.out HV.out HL.out).mono ?_
    rintro e w2 ⟨a1, c1, rfl, ho, hb⟩
    have I := Lib.hid (I.out.below hb)
    have J := Lib.hid (J.out.below hb)
    have I1 := Lib.hid (IsInts.of_owned ho (by omega))
    have B := Lib.hid (B.out.trans (hb.mono B.out.size))
    clear hb ho
    go_wp2_with fail
    refine (specRem_as _ n cv zs s _ nl cl lots l v _ I.out J.out HV.out HL.out).mono ?_
    rintro e w3 ⟨a2, c2, rfl, ho, hb⟩
    have I := Lib.hid (I.out.below hb)
    have J := Lib.hid (J.out.below hb)
    have I1 := Lib.hid (I1.out.below hb)
    have I2 := Lib.hid (IsInts.of_owned ho (by omega))
    have B := Lib.hid (B.out.trans (hb.mono B.out.size))
    clear hb ho
    go_wp2_with fail
    refine (sameInts_it2 _ _ _ l _ _ _ I1.out I2.out).mono ?_
    rintro e w4 ⟨rfl, hd⟩
    have hb := hd.below w3.heap.size
    have I := Lib.hid (I.out.below hb)
    have J := Lib.hid (J.out.below hb)
    have I1 := Lib.hid (I1.out.below hb)
    have I2 := Lib.hid (I2.out.below hb)
    have B := Lib.hid (B.out.trans (hb.mono B.out.size))
    clear hb hd
    cases v
    · skip
      go_wp2_with fail
      refine (sameInts_it2 _ _ _ l _ _ _ I1.out I2.out).mono ?_
      rintro e w5 ⟨rfl, hd⟩
      have hb := hd.below w4.heap.size
      have I := Lib.hid (I.out.below hb)
      have J := Lib.hid (J.out.below hb)
      have I1 := Lib.hid (I1.out.below hb)
      have I2 := Lib.hid (I2.out.below hb)
      have B := Lib.hid (B.out.trans (hb.mono B.out.size))
      clear hb hd
      go_wp2
      go_ret
      exact ⟨rfl, B.out⟩
    obtain ⟨hvo, hs20, hlo, hln⟩ := (okR_iff _ _ _).1 HV.out
    have HR : Hid (l = upL zs s lots (lfN zs s)) := by rw [Hid, ← HL.out, remL, if_pos HV.out]
    have hll : l.length = n := by rw [HR.out, upL_length]; exact Hn.out
    obtain rfl : nl = n := by rw [← Hnl.out, hln]; exact Hn.out
    have VO := Lib.hid hvo
    have LO := Lib.hid hlo
    have LN := Lib.hid hln
    have HLL := Lib.hid hll
    have hn1 : 1 ≤ nl ∧ nl ≤ 5 := by have := (voteB_iff zs).1 VO.out; rw [Hn.out] at this; exact this.1.2
    have XV : Hid (toB zs 99 nl = true) := by have := ((voteB_iff zs).1 VO.out).1.1; rw [Hn.out] at this; exact this
    have HE : Hid (∀ i, i < nl → 0 ≤ l[i]?.getD 0 ∧ l[i]?.getD 0 ≤ 21) := fun i hi => by rw [HR.out]; exact up_in VO.out hs20 LO.out LN.out (Nat.le_refl _) (by rw [Hn.out]; exact hi)
    rw [hll] at I1 I2 ⊢
    clear hvo hlo hln hll
    have HT : Hid (totI l = s) := by rw [Hid, HR.out]; exact p90_tot VO.out hs20 LO.out LN.out
    have HFR : Hid (fairB zs l = true) := by rw [Hid, HR.out]; exact p90_fair VO.out hs20 LO.out LN.out
    have hss : (s == s) = true := by simp
    have hnn : ((nl : Int) == (nl : Int)) = true := by simp
    go_wp2_with fail
    refine (lawSum_as _ _ _ l s _ I1.out (by omega) (fun x hx => by have := HE.out x hx; omega) HT.out).mono ?_
    rintro e w9 ⟨rfl, rfl⟩
    go_wp2_with fail
    refine (implFair_as _ _ cv zs _ _ _ l true _ I.out I1.out HFR.out).mono ?_
    rintro e w9 ⟨rfl, hb⟩
    go_wp2
    go_ret
    exact ⟨rfl, B.out.trans (hb.mono B.out.size)⟩
  · clear w0
    go_enter Try.func3, Try.ntmps3
    go_wp2
    go_ret
    exact ⟨rfl, Below.refl _ _⟩

end Go.Proofs.Ytmbhcgdapglbgaa.fnRemainder
