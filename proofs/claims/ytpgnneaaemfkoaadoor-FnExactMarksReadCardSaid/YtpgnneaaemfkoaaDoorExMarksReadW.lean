/-
  laws.FnExactMarksRead returns true for all marks: impl.MarksRead answers as spec.MarksRead, leaves its argument as it was, and what it returns is memory of its own. Condition: math/bits' two tables lie as their initialisers lay them; the given tie shows that they do.
-/
import Derived.Test.YtpgnneaaemfkoaaDoorOpen
import Derived.Test.YtpgnneaaemfkoaaDoorTab
import Derived.Test.YtpgnneaaemfkoaaDoorReadI
import Derived.Test.YtpgnneaaemfkoaaDoorMarkS
namespace Go.Proofs.YtpgnneaaemfkoaaDoor.fnExactMarksReadCard
open Go.RowKit
set_option linter.unusedVariables false


set_option maxHeartbeats 2000000 in
/-- The law's walk: it returns true, and writes nothing that was there. -/
theorem walk (a0 : Option Addr) (len0 cap0 : Nat) (z0 : List Int) (w : World) (w0 : IsRow .i64 w a0 len0 cap0 z0) (hT0 : Tab w) :
    Calls Tryd.prog 7 #[.slice a0 len0 cap0] w fun e w' => e = .returned (.bool true) ∧ Below w.heap.size w w' := by
  by_cases hl : len0 ≤ 1048576
  · have HI := w0.ints hl
    obtain ⟨zs, hzs⟩ : ∃ zs, z0.take len0 = zs := ⟨_, rfl⟩
    rw [hzs] at HI
    have H := Lib.hid HI
    have HT := Lib.hid hT0
    clear HI hzs w0 hT0
    obtain ⟨pl, hpl⟩ : ∃ pl, readL zs = pl := ⟨_, rfl⟩
    obtain ⟨ok, hok⟩ : ∃ ok, rankB zs = ok := ⟨_, rfl⟩
    have hp5 : pl.length ≤ 9 := by rw [← hpl]; exact readL_short zs
    have HP := Lib.hid hpl
    have HK := Lib.hid hok
    clear hpl hok
    have he : eqB pl pl = true := eqB_self pl
    have he2 : eqB zs zs = true := eqB_self zs
    have hne : (ok != ok) = false := by cases ok <;> rfl
    have hnl : ¬ (1 + (len0 : Int) < 0) := by omega
    have hnn : ¬ (1 + (pl.length : Int) < 0) := by omega
    have hnq : ((1 + (pl.length : Int)) != (1 + (pl.length : Int))) = false := by simp
    go_enter Tryd.func7, Tryd.ntmps7
    go_wp2_with fail
    refine (toIntS_any _ _ _ zs _ H.out).mono ?_
    rintro e w1 ⟨g, rfl, ho1, hb1⟩
    have O1 := Lib.hid (IsInts.of_owns ho1 (by omega)); clear ho1
    go_wp2_with fail
    refine (specRead_as _ _ _ zs pl ok _ O1.out HP.out HK.out).mono ?_
    rintro e w2 ⟨a2, c2, rfl, ho2, hb2⟩
    have I2 := Lib.hid (IsInts.of_owned ho2 (by omega)); clear ho2
    have B2 := Lib.hid (hb1.trans (hb2.mono hb1.size))
    clear O1 hb1 hb2
    go_wp2_with fail
    refine (toIntS_any _ _ _ zs _ (H.out.below B2.out)).mono ?_
    rintro e w3 ⟨gx, rfl, ho3, hb3⟩
    have hgx : gx < w3.heap.size := (ho3.lt gx rfl).2
    have X3 := Lib.hid ho3; clear ho3
    have C3 := Lib.hid hb3; clear hb3
    go_wp2_with fail
    refine (implRead_as _ _ _ zs pl ok _ (IsInts.of_owns X3.out (by omega)) ((HT.out.below B2.out).below C3.out) HP.out HK.out).mono ?_
    rintro e w4 ⟨a4, c4, rfl, ho4, hb4⟩
    have O4 := Lib.hid ho4; clear ho4
    have X4 := Lib.hid (owns_under X3.out hb4)
    have C4 := Lib.hid (C3.out.trans (hb4.mono C3.out.size)); clear hb4 X3 C3
    go_wp2_with fail
    refine (eqIntS_any _ _ _ pl _ _ _ pl _ (IsInts.of_owned O4.out (by omega)) (I2.out.below C4.out)).mono ?_
    rintro e w5 ⟨rfl, hd⟩
    have O5 := Lib.hid (owns_under O4.out (hd.below _))
    have X5 := Lib.hid (owns_under X4.out (hd.below _))
    have C5 := Lib.hid (C4.out.trans (hd.below _)); clear hd O4 X4 C4
    go_wp2_with fail
    refine (toIntS_any _ _ _ zs _ ((H.out.below B2.out).below C5.out)).mono ?_
    rintro e w6 ⟨g6, rfl, ho6, hb6⟩
    have I6 := Lib.hid (IsInts.of_owns ho6 (by omega)); clear ho6
    have O6 := Lib.hid (owns_under O5.out hb6)
    have X6 := Lib.hid (owns_under X5.out hb6)
    have C6 := Lib.hid (C5.out.trans (hb6.mono C5.out.size)); clear hb6 O5 X5 C5
    go_wp2_with fail
    refine (eqIntS_any _ _ _ zs _ _ _ zs _ (IsInts.of_owns X6.out (by omega)) I6.out).mono ?_
    rintro e w7 ⟨rfl, hd⟩
    have O7 := Lib.hid (owns_under O6.out (hd.below _))
    have X7 := Lib.hid (owns_under X6.out (hd.below _))
    have C7 := Lib.hid (C6.out.trans (hd.below _)); clear hd O6 X6 C6 I6
    go_wp2_with fail
    refine (markInt_step _ gx _ _ _ 1 _ X7.out (by omega) (by omega) (by omega)).mono ?_
    rintro e w8 ⟨rfl, ho8, hs8⟩
    have hg2 := (ho8.lt gx rfl).1
    have O8 := Lib.hid (owns_step O7.out hs8 hgx)
    have C8 := Lib.hid (C7.out.trans (hs8.below hg2 C7.out.size)); clear hs8 O7 X7 C7 ho8
    go_wp2_with fail
    refine (eqIntS_any _ _ _ pl _ _ _ pl _ (IsInts.of_owned O8.out (by omega)) (I2.out.below C8.out)).mono ?_
    rintro e w9 ⟨rfl, hd⟩
    have O9 := Lib.hid (owns_under O8.out (hd.below _))
    have C9 := Lib.hid (C8.out.trans (hd.below _)); clear hd O8 C8
    go_wp2_with fail
    refine (markInt_any w3.heap.size _ _ _ _ 1 _ O9.out (by omega) (by omega) (by omega)).mono ?_
    rintro e w10 ⟨rfl, ho, hb⟩
    have O10 := Lib.hid ho; clear ho O9
    have C10 := Lib.hid (C9.out.trans (hb.mono (by omega))); clear C9 hb
    go_wp2_with fail
    refine (heldInt_any _ _ _ 1 _ (IsInts.of_owned O10.out (by omega)) (by omega) (by omega)).mono ?_
    rintro e w11 ⟨rfl, rfl⟩
    go_wp2_with fail
    refine (toIntS_any _ _ _ zs _ ((H.out.below B2.out).below C10.out)).mono ?_
    rintro e w12 ⟨g12, rfl, ho, hb⟩
    have I12 := Lib.hid (IsInts.of_owns ho (by omega)); clear ho
    have O12 := Lib.hid (owns_under O10.out hb)
    have C12 := Lib.hid (C10.out.trans (hb.mono C10.out.size)); clear hb O10 C10
    go_wp2_with fail
    refine (implRead_as _ _ _ zs pl ok _ I12.out ((HT.out.below B2.out).below C12.out) HP.out HK.out).mono ?_
    rintro e w13 ⟨a13, c13, rfl, ho, hb⟩
    have I13 := Lib.hid (IsInts.of_owned ho (by omega)); clear ho
    have O13 := Lib.hid (owns_under O12.out hb)
    have C13 := Lib.hid (C12.out.trans (hb.mono C12.out.size)); clear hb O12 C12 I12
    go_wp2_with fail
    refine (eqIntS_any _ _ _ pl _ _ _ pl _ I13.out (I2.out.below C13.out)).mono ?_
    rintro e w14 ⟨rfl, hd⟩
    have O14 := Lib.hid (owns_under O13.out (hd.below _))
    have C14 := Lib.hid (C13.out.trans (hd.below _)); clear hd O13 C13
    go_wp2_with fail
    refine (heldInt_any _ _ _ 1 _ (IsInts.of_owned O14.out (by omega)) (by omega) (by omega)).mono ?_
    rintro e w15 ⟨rfl, rfl⟩
    go_wp2
    go_ret
    exact ⟨rfl, B2.out.trans (C14.out.mono B2.out.size)⟩
  · have hl' : (1048576 : Int) < (len0 : Int) := by omega
    clear w0 hT0
    go_enter Tryd.func7, Tryd.ntmps7
    go_wp2
    go_ret
    exact ⟨rfl, Below.refl _ _⟩

end Go.Proofs.YtpgnneaaemfkoaaDoor.fnExactMarksReadCard
