/-
  laws.FnExactMarksAgree returns true for all readers: impl.MarksAgree answers as spec.MarksAgree, leaves its argument as it was, and what it returns is memory of its own. No condition.
-/
import Derived.Test.YtpgnneaaemfkoaaOpen
import Derived.Test.YtpgnneaaemfkoaaAgreeI
import Derived.Test.YtpgnneaaemfkoaaGridM
namespace Go.Proofs.Ytpgnneaaemfkoaa.fnExactMarksAgree
open Go.RowKit
set_option linter.unusedVariables false


set_option maxHeartbeats 2000000 in
/-- The law's walk: it returns true, and writes nothing that was there. -/
theorem walk (a0 : Option Addr) (len0 cap0 : Nat) (A0 : Nat → Option Addr) (L0 C0 : Nat → Nat) (z0 : Nat → List Int) (w : World) (w0 : IsRowSS w a0 len0 cap0 A0 L0 C0 z0) :
    Calls Try.prog 7 #[.slice a0 len0 cap0] w fun e w' => e = .returned (.bool true) ∧ Below w.heap.size w w' := by
  have HW0 := Lib.hid w0; clear w0
  go_enter Try.func7, Try.ntmps7
  go_wp2_with fail
  refine (szIntSS_any _ _ _ _ _ _ _ _ HW0.out).mono ?_
  rintro e w1 ⟨⟨r, rfl, hr⟩, rfl⟩
  rcases hr with rfl | ⟨hr0, hl, hL⟩
  · go_wp2
    go_ret
    exact ⟨rfl, Below.refl _ _⟩
  · have HI := HW0.out.rows hl hL
    have hrl : ∀ j, j < len0 → (((List.range len0).map fun r => (z0 r).take (L0 r))[j]?.getD []).length ≤ 1048600 := fun j hj => by
      have := hL j hj
      simp [hj]; omega
    have hrlen : ((List.range len0).map fun r => (z0 r).take (L0 r)).length = len0 := by simp
    obtain ⟨rs, hrs⟩ : ∃ rs, ((List.range len0).map fun r => (z0 r).take (L0 r)) = rs := ⟨_, rfl⟩
    rw [hrs] at HI hrl hrlen
    have H := Lib.hid HI
    have HRL := Lib.hid hrl
    have HRN := Lib.hid hrlen
    clear HI hrs hrl hrlen HW0 hL
    obtain ⟨pl, hpl⟩ : ∃ pl, agreeL rs = pl := ⟨_, rfl⟩
    obtain ⟨ok, hok⟩ : ∃ ok, agreeB rs = ok := ⟨_, rfl⟩
    have hp5 : pl.length ≤ 5 := by rw [← hpl]; exact agreeL_short rs
    have HP := Lib.hid hpl
    have HK := Lib.hid hok
    clear hpl hok
    have hl6 : len0 ≤ 1048600 := by omega
    have he : eqB pl pl = true := eqB_self pl
    have hne : (ok != ok) = false := by cases ok <;> rfl
    have hnn : ¬ (1 + (pl.length : Int) < 0) := by omega
    have hnq : ((1 + (pl.length : Int)) != (1 + (pl.length : Int))) = false := by simp
    have hnr : ¬ r < 0 := by omega
    go_wp2_with fail
    refine (toIntSS_any _ _ _ rs _ H.out).mono ?_
    rintro e w1 ⟨g1, V1, G1, rfl, ho1, hf1, hb1⟩
    have O1 := Lib.hid (ho1.rows hf1 HRN.out hl6 HRL.out); clear ho1 hf1
    go_wp2_with fail
    refine (specAgree_as _ _ _ rs pl ok _ O1.out HP.out HK.out).mono ?_
    rintro e w2 ⟨a2, c2, rfl, ho2, hb2⟩
    have I2 := Lib.hid (IsInts.of_owned ho2 (by omega)); clear ho2
    have B2 := Lib.hid (hb1.trans (hb2.mono hb1.size))
    clear O1 hb1 hb2
    go_wp2_with fail
    refine (toIntSS_any _ _ _ rs _ (H.out.below B2.out)).mono ?_
    rintro e w3 ⟨gx, V3, G3, rfl, ho3, hf3, hb3⟩
    have hG3 : ∀ j, j < len0 → G3 j < w3.heap.size := fun j hj => by
      obtain ⟨_, _, xs, hx⟩ := ho3.2.1 j hj
      exact (hx.lt (G3 j) rfl).2
    have HG3 := Lib.hid hG3; clear hG3
    have X3 := Lib.hid ho3; clear ho3
    have F3 := Lib.hid hf3; clear hf3
    have hsz23 := hb3.size
    have C3 := Lib.hid hb3; clear hb3
    go_wp2_with fail
    refine (implAgree_as _ _ _ rs pl ok _ (X3.out.rows F3.out HRN.out hl6 HRL.out) HP.out HK.out).mono ?_
    rintro e w4 ⟨a4, c4, rfl, ho4, hb4⟩
    have O4 := Lib.hid ho4; clear ho4
    have X4 := Lib.hid (X3.out.under hb4)
    have F4 := Lib.hid (F3.out.under hb4)
    have C4 := Lib.hid (C3.out.trans (hb4.mono C3.out.size)); clear hb4 X3 C3 F3
    go_wp2_with fail
    refine (eqIntS_any _ _ _ pl _ _ _ pl _ (IsInts.of_owned O4.out (by omega)) (I2.out.below C4.out)).mono ?_
    rintro e w5 ⟨rfl, hd⟩
    have O5 := Lib.hid (owns_under O4.out (hd.below _))
    have X5 := Lib.hid (X4.out.under (hd.below _))
    have F5 := Lib.hid (F4.out.under (hd.below _))
    have C5 := Lib.hid (C4.out.trans (hd.below _)); clear hd O4 X4 C4 F4
    go_wp2_with fail
    refine (toIntSS_any _ _ _ rs _ ((H.out.below B2.out).below C5.out)).mono ?_
    rintro e w6 ⟨g6, V6, G6, rfl, ho6, hf6, hb6⟩
    have I6 := Lib.hid (ho6.rows hf6 HRN.out hl6 HRL.out); clear ho6 hf6
    have O6 := Lib.hid (owns_under O5.out hb6)
    have X6 := Lib.hid (X5.out.under hb6)
    have F6 := Lib.hid (F5.out.under hb6)
    have C6 := Lib.hid (C5.out.trans (hb6.mono C5.out.size)); clear hb6 O5 X5 C5 F5
    go_wp2_with fail
    refine (eqIntSS_same _ _ _ _ _ rs _ (X6.out.rows F6.out HRN.out hl6 HRL.out) I6.out).mono ?_
    rintro e w7 ⟨rfl, hd⟩
    have O7 := Lib.hid (owns_under O6.out (hd.below _))
    have X7 := Lib.hid (X6.out.under (hd.below _))
    have C7 := Lib.hid (C6.out.trans (hd.below _)); clear hd O6 X6 C6 I6 F6
    go_wp2_with fail
    refine (markIntSS_any w2.heap.size w3.heap.size gx len0 rs V3 G3 _ X7.out HG3.out hl6 HRL.out).mono ?_
    rintro e w8 ⟨⟨q, rfl, hq⟩, hm8⟩
    have hnq2 : ¬ q < 0 := by omega
    have O8 := Lib.hid (owns_mid O7.out hm8 (Nat.le_refl _))
    have C8 := Lib.hid (C7.out.trans (hm8.below C7.out.size)); clear hm8 O7 X7 C7
    go_wp2_with fail
    refine (eqIntS_any _ _ _ pl _ _ _ pl _ (IsInts.of_owned O8.out (by omega)) (I2.out.below C8.out)).mono ?_
    rintro e w9 ⟨rfl, hd⟩
    have O9 := Lib.hid (owns_under O8.out (hd.below _))
    have C9 := Lib.hid (C8.out.trans (hd.below _)); clear hd O8 C8
    go_wp2_with fail
    refine (markInt_any w3.heap.size _ _ _ _ 1 _ O9.out (by omega) (by omega) (by omega)).mono ?_
    rintro e w10 ⟨rfl, ho, hb⟩
    have O10 := Lib.hid ho; clear ho O9
    have C10 := Lib.hid (C9.out.trans (hb.mono (by omega))); clear C9 hb
    go_wp2_with fail
    refine (heldInt_any _ _ _ 1 _ (IsInts.of_owned O10.out (by omega)) (by omega) (by omega)).mono ?_
    rintro e w11 ⟨rfl, rfl⟩
    go_wp2_with fail
    refine (toIntSS_any _ _ _ rs _ ((H.out.below B2.out).below C10.out)).mono ?_
    rintro e w12 ⟨g12, V12, G12, rfl, ho, hf, hb⟩
    have I12 := Lib.hid (ho.rows hf HRN.out hl6 HRL.out); clear ho hf
    have O12 := Lib.hid (owns_under O10.out hb)
    have C12 := Lib.hid (C10.out.trans (hb.mono C10.out.size)); clear hb O10 C10
    go_wp2_with fail
    refine (implAgree_as _ _ _ rs pl ok _ I12.out HP.out HK.out).mono ?_
    rintro e w13 ⟨a13, c13, rfl, ho, hb⟩
    have I13 := Lib.hid (IsInts.of_owned ho (by omega)); clear ho
    have O13 := Lib.hid (owns_under O12.out hb)
    have C13 := Lib.hid (C12.out.trans (hb.mono C12.out.size)); clear hb O12 C12 I12
    go_wp2_with fail
    refine (eqIntS_any _ _ _ pl _ _ _ pl _ I13.out (I2.out.below C13.out)).mono ?_
    rintro e w14 ⟨rfl, hd⟩
    have O14 := Lib.hid (owns_under O13.out (hd.below _))
    have C14 := Lib.hid (C13.out.trans (hd.below _)); clear hd O13 C13
    go_wp2_with fail
    refine (heldInt_any _ _ _ 1 _ (IsInts.of_owned O14.out (by omega)) (by omega) (by omega)).mono ?_
    rintro e w15 ⟨rfl, rfl⟩
    go_wp2
    go_ret
    exact ⟨rfl, B2.out.trans (C14.out.mono B2.out.size)⟩

end Go.Proofs.Ytpgnneaaemfkoaa.fnExactMarksAgree
