/-
  laws.FnMarksOrder returns true for every code: impl.MarksRead of drawn marks returns the same ballot with all marks but 0 greater by 1, if all are less than RankMax. Condition: math/bits' two tables lie as their initialisers lay them; the given tie shows that they do.
-/
import Derived.Test.YtpgnneaaemfkoaaDoorOpen
import Derived.Test.YtpgnneaaemfkoaaDoorTab
import Derived.Test.YtpgnneaaemfkoaaDoorReadI
import Derived.Test.YtpgnneaaemfkoaaDoorReadQ
import Derived.Test.YtpgnneaaemfkoaaDoorDrawR
import Derived.Test.YtpgnneaaemfkoaaDoorSame
import Derived.Test.YtpgnneaaemfkoaaDoorHas
namespace Go.Proofs.YtpgnneaaemfkoaaDoor.fnMarksOrderCard
open Go.RowKit
set_option linter.unusedVariables false


set_option maxHeartbeats 2000000 in
/-- The law's walk: it returns true, and writes nothing that was there. -/
theorem walk (a0 : Option Addr) (len0 cap0 : Nat) (z0 : List Int) (w : World) (w0 : IsRow .u8 w a0 len0 cap0 z0) (hT0 : Tab w) :
    Calls Tryd.prog 6 #[.slice a0 len0 cap0] w fun e w' => e = .returned (.bool true) ∧ Below w.heap.size w w' := by
  by_cases hl : len0 ≤ 1048576
  · have hcap := w0.cap
    have HB := Lib.hid w0.bytes
    have HT := Lib.hid hT0
    clear w0 hT0
    go_enter Tryd.func6, Tryd.ntmps6
    go_wp2_with fail
    refine (drawMarks_any a0 len0 cap0 _ _ HB.out hcap (by omega)).mono ?_
    rintro e w1 ⟨ms, a1, c1, rfl, ho, hz, hb⟩
    have I1 := Lib.hid (IsInts.of_owned ho (by omega)); clear ho
    have T1 := Lib.hid (HT.out.below hb)
    have B1 := Lib.hid hb; clear hb HB HT
    obtain ⟨pl, hpl⟩ : ∃ pl, readL ms = pl := ⟨_, rfl⟩
    obtain ⟨ok, hok⟩ : ∃ ok, rankB ms = ok := ⟨_, rfl⟩
    have hp5 : pl.length ≤ 9 := by rw [← hpl]; exact readL_short ms
    have HP := Lib.hid hpl
    have HK := Lib.hid hok
    clear hpl hok
    have he : eqB pl pl = true := eqB_self pl
    have hne : (ok != ok) = false := by cases ok <;> rfl
    have heq : (ok == ok) = true := by cases ok <;> rfl
    go_wp2_with fail
    refine (implRead_as _ _ _ ms pl ok _ I1.out T1.out HP.out HK.out).mono ?_
    rintro e w2 ⟨a2, c2, rfl, ho, hb⟩
    have I2 := Lib.hid (IsInts.of_owned ho (by omega)); clear ho
    have J2 := Lib.hid (I1.out.below hb)
    have T2 := Lib.hid (T1.out.below hb)
    have B2 := Lib.hid (B1.out.trans (hb.mono B1.out.size)); clear hb I1 B1 T1
    go_wp2_with fail
    refine (specRead_as _ _ _ ms pl ok _ J2.out HP.out HK.out).mono ?_
    rintro e w3 ⟨a3, c3, rfl, ho, hb⟩
    have I3 := Lib.hid (IsInts.of_owned ho (by omega)); clear ho
    have I2 := Lib.hid (I2.out.below hb)
    have J3 := Lib.hid (J2.out.below hb)
    have T3 := Lib.hid (T2.out.below hb)
    have B3 := Lib.hid (B2.out.trans (hb.mono B2.out.size)); clear hb J2 B2 T2
    go_wp2_with fail
    refine (sameInts_any _ _ _ pl _ _ _ pl _ I2.out I3.out).mono ?_
    rintro e w4 ⟨rfl, hd⟩
    have I2 := Lib.hid (I2.out.dr hd)
    have I3 := Lib.hid (I3.out.dr hd)
    have J4 := Lib.hid (J3.out.dr hd)
    have T4 := Lib.hid (T3.out.below (hd.below _))
    have B4 := Lib.hid (B3.out.trans (hd.below _)); clear hd B3 J3 T3
    cases hk : ok
    · subst hk
      go_wp2_with fail
      refine (sameInts_any _ _ _ pl _ _ _ pl _ I2.out I3.out).mono ?_
      rintro e w5 ⟨rfl, hd⟩
      have B5 := Lib.hid (B4.out.trans (hd.below _)); clear hd B4
      go_wp2
      go_ret
      exact ⟨rfl, B5.out⟩
    · subst hk
      obtain ⟨N, hN⟩ : ∃ N, ms.length = N := ⟨_, rfl⟩
      have hN5 := rankB_len HK.out
      rw [hN] at J4 hN5 ⊢
      obtain ⟨hN1, hN5⟩ := hN5
      have HN := Lib.hid hN
      obtain ⟨pn, hpn⟩ : ∃ pn, pl.length = pn := ⟨_, rfl⟩
      have HPN := Lib.hid hpn
      rw [hpn] at hp5 I2 ⊢
      clear hN hz hpn
      obtain ⟨b0, hb0⟩ : ∃ b0, w4.heap.size = b0 := ⟨_, rfl⟩
      have HO0 : Hid ((w4.alloc (.cells #[] 3)).ownsRow b0 3 1 (.slice (some ⟨b0, 0, none⟩) 0 0) 0 (((upL ms).take 0).map (Value.int .i64))) := by
        rw [← hb0]; exact World.ownsRow_lit (base := w4.heap.size) (e := 3) (size := 1) w4 #[] 0 (Nat.le_refl _) (by unfold maxLen; omega) rfl
      have hB0 : Below b0 w4 (w4.alloc (.cells #[] 3)) := by rw [← hb0]; exact (Below.refl _ w4).alloc (Nat.le_refl _) _
      have hsz0 : b0 ≤ (w4.alloc (.cells #[] 3)).heap.size := by simp; omega
      have HBL : Hid (∀ wr, Below b0 w4 wr → IsInts wr a1 N c1 ms ∧ IsInts wr a2 pn c2 pl ∧ Tab wr ∧ Below w.heap.size w wr) := fun wr hb => by
        rw [← hb0] at hb
        exact ⟨J4.out.below hb, I2.out.below hb, T4.out.below hb, B4.out.trans (hb.mono B4.out.size)⟩
      obtain ⟨i0, hi, hz0, hz1, hz2⟩ := info_parts int_info
      go_wp2
      obtain ⟨w5, hw5⟩ : ∃ w5, w4.alloc (.cells #[] 3) = w5 := ⟨_, rfl⟩
      rw [hw5] at HO0 hB0 hsz0 ⊢
      clear hw5 hb0
      go_loopw [8, 9] (fun o i wr => ∃ (k c : Nat) (ao : Option Addr), k ≤ N ∧ i = .int .i64 k ∧ o = .slice ao k c ∧ Hid (wr.ownsRow b0 3 1 (.slice ao k c) k (((upL ms).take k).map (Value.int .i64))) ∧ Hid (∀ j, j < k → ms[j]?.getD 0 ≤ 8) ∧ Below b0 w4 wr ∧ b0 ≤ wr.heap.size) (fun _ i _ => N - (intOf i).toNat)
      case atStart => exact ⟨0, 0, some ⟨b0, 0, none⟩, Nat.zero_le _, rfl, rfl, HO0, fun j hj => by omega, hB0, hsz0⟩
      case round =>
        obtain ⟨k, c, ao, hkN, rfl, rfl, ho, h8, hB, hsz⟩ := hrel
        by_cases hlt : k < N
        · obtain ⟨-, -, -, h4⟩ := (HBL.out _ hB).1
          obtain ⟨b, off, rfl, hb, hcell⟩ := h4 (by omega)
          have hck := hcell k hlt
          have hat := rankB_at HK.out k (by rw [HN.out]; exact hlt)
          have hup := upL_at ms k (by rw [HN.out]; exact hlt)
          have htk : (upL ms).take (k + 1) = (upL ms).take k ++ [(upL ms)[k]?.getD 0] := by
            rw [List.take_succ_eq_append_getElem (by rw [upL_length, HN.out]; exact hlt)]
            simp [upL_length, HN.out, hlt]
          obtain ⟨z, hz⟩ : ∃ z, ms[k]?.getD 0 = z := ⟨_, rfl⟩
          rw [hz] at hck hat hup
          have HZ := Lib.hid hz
          rw [hup] at htk
          have HTK := Lib.hid htk
          obtain ⟨hat0, hat9⟩ := hat
          clear h4 hcell hup htk hz
          by_cases h9 : z = 9
          · have hbe : (z == 9) = true := by simpa using h9
            go_wp2
            go_ret
            exact ⟨rfl, (HBL.out _ hB).2.2.2⟩
          · have hbe : (z == 9) = false := by simpa using h9
            have H8 : Hid (∀ j, j < k + 1 → ms[j]?.getD 0 ≤ 8) := fun j hj => by
              by_cases e : j = k
              · subst e; rw [HZ.out]; omega
              · exact h8.out j (by omega)
            by_cases hpos : 0 < z
            · rw [if_pos hpos] at HTK
              go_wp2_with (at_builtin; refine wpList_append_own _ rfl _ _ 23 rfl b0 3 i0 (.int .i64 0) 1 8 Tryd.underlying23 hi hz0 hz1 hz2 rfl (by decide) _ _ _ rfl (ho.out.alloc _) ⟨wr.heap.size, 0, none⟩ 1 1 [.int .i64 (z + 1)] rfl rfl (cell_one_new _ _ _) (by simp [Value.oneCell']) (by unfold maxLen; omega) (by omega) (by simp; omega) ?_; intro v' w4 hown' hgrow _; obtain ⟨a4, cap4, rfl⟩ := owns_slice hown')
              have hrow : ∀ j, (Value.slice ao k c).ownBlock = some j → b0 ≤ j := fun j ej => (ho.out.lt j ej).1
              have B4' : Below b0 _ w4 := (hB.alloc hsz _).grown hgrow (by simp; omega) hrow
              have O4 : Hid (w4.ownsRow b0 3 1 (.slice a4 (k + 1) cap4) (k + 1) (((upL ms).take (k + 1)).map (Value.int .i64))) := by
                unfold Hid; rw [HTK.out, List.map_append]; exact hown'
              have hsz4 : b0 ≤ w4.heap.size := by have := hgrow.size; simp at this; omega
              clear hown' hgrow hrow ho hB
              go_wp2
              go_roundw
              case rel => exact ⟨k + 1, cap4, a4, by omega, by go_num, rfl, O4, H8, B4', hsz4⟩
              case measure => simp [intOf]; omega
            · rw [if_neg hpos] at HTK
              go_wp2_with (at_builtin; refine wpList_append_own _ rfl _ _ 23 rfl b0 3 i0 (.int .i64 0) 1 8 Tryd.underlying23 hi hz0 hz1 hz2 rfl (by decide) _ _ _ rfl (ho.out.alloc _) ⟨wr.heap.size, 0, none⟩ 1 1 [.int .i64 z] rfl rfl (cell_one_new _ _ _) (by simp [Value.oneCell']) (by unfold maxLen; omega) (by omega) (by simp; omega) ?_; intro v' w4 hown' hgrow _; obtain ⟨a4, cap4, rfl⟩ := owns_slice hown')
              have hrow : ∀ j, (Value.slice ao k c).ownBlock = some j → b0 ≤ j := fun j ej => (ho.out.lt j ej).1
              have B4' : Below b0 _ w4 := (hB.alloc hsz _).grown hgrow (by simp; omega) hrow
              have O4 : Hid (w4.ownsRow b0 3 1 (.slice a4 (k + 1) cap4) (k + 1) (((upL ms).take (k + 1)).map (Value.int .i64))) := by
                unfold Hid; rw [HTK.out, List.map_append]; exact hown'
              have hsz4 : b0 ≤ w4.heap.size := by have := hgrow.size; simp at this; omega
              clear hown' hgrow hrow ho hB
              go_wp2
              go_roundw
              case rel => exact ⟨k + 1, cap4, a4, by omega, by go_num, rfl, O4, H8, B4', hsz4⟩
              case measure => simp [intOf]; omega
        · obtain rfl : k = N := by omega
          obtain ⟨hu1, hu2⟩ := read_up HK.out (fun i hi => h8.out i (by rw [HN.out] at hi; exact hi))
          rw [HP.out] at hu2
          have hall : (upL ms).take k = upL ms := List.take_of_length_le (by rw [upL_length, HN.out]; exact Nat.le_refl _)
          have ho' := ho.out
          rw [hall] at ho'
          have X5 := Lib.hid (IsInts.of_owned ho' (by omega))
          obtain ⟨_, hI, hT, hW⟩ := HBL.out _ hB
          have HI := Lib.hid hI
          have HT := Lib.hid hT
          have HW := Lib.hid hW
          have HU1 := Lib.hid hu1
          have HU2 := Lib.hid hu2
          clear hu1 hu2 hall ho' ho hI hT hW
          go_wp2_with fail
          refine (implRead_as _ _ _ (upL ms) pl true _ X5.out HT.out HU2.out HU1.out).mono ?_
          rintro e w6 ⟨a6, c6, rfl, ho, hb⟩
          have Y6 := Lib.hid (IsInts.of_owned ho (by rw [HPN.out]; omega)); clear ho
          have I6 := Lib.hid (HI.out.below hb)
          have B6 := Lib.hid (HW.out.trans (hb.mono HW.out.size)); clear hb
          rw [HPN.out] at Y6 ⊢
          go_wp2_with fail
          refine (sameInts_any _ _ _ pl _ _ _ pl _ Y6.out I6.out).mono ?_
          rintro e w7 ⟨rfl, hd⟩
          have B7 := Lib.hid (B6.out.trans (hd.below _)); clear hd B6
          go_wp2
          go_ret
          exact ⟨rfl, B7.out⟩
  · have hl' : (1048576 : Int) < (len0 : Int) := by omega
    clear w0 hT0
    go_enter Tryd.func6, Tryd.ntmps6
    go_wp2
    go_ret
    exact ⟨rfl, Below.refl _ _⟩

end Go.Proofs.YtpgnneaaemfkoaaDoor.fnMarksOrderCard
