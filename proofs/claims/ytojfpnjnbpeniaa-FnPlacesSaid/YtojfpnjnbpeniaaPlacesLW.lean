/-
  laws.FnPlaces returns true for every code. No condition.
-/
import Derived.Test.YtojfpnjnbpeniaaGrp1
import Derived.Test.YtojfpnjnbpeniaaGrp17
import Derived.Test.YtojfpnjnbpeniaaGrp18
namespace Go.Proofs.Ytojfpnjnbpeniaa.fnPlaces
open Go.RowKit
set_option linter.unusedVariables false


set_option maxRecDepth 100000 in
set_option maxHeartbeats 2000000 in
/-- The law's walk: it returns true, and writes nothing that was there. -/
theorem walk (a0 : Option Addr) (len0 cap0 : Nat) (z0 : List Int) (w : World) (w0 : IsRow .u8 w a0 len0 cap0 z0) :
    Calls Try.prog 7 #[.slice a0 len0 cap0] w fun e w' => e = .returned (.bool true) ∧ Below w.heap.size w w' := by
  by_cases hl : len0 ≤ 1048576
  · skip
    have hcap := w0.cap
    have HB := Lib.hid w0.bytes; clear w0
    go_enter Try.func7, Try.ntmps7
    go_wp2_with fail
    refine (drawXPlace_any a0 len0 cap0 _ _ HB.out hcap (by omega)).mono ?_
    rintro e w1 ⟨xs, g, c, n, rfl, hp, hn6, hb⟩
    have P := Lib.hid hp
    have B := Lib.hid hb
    have HSM := Lib.hid hp.2.1
    have hl13 := hp.2.2.2
    clear hb HB hp
    obtain ⟨v, hv⟩ : ∃ v, fitsB xs (n : Int) = v := ⟨_, rfl⟩
    obtain ⟨l, hL⟩ : ∃ l, plaR xs (n : Int) = l := ⟨_, rfl⟩
    have hl5 : l.length ≤ 5 := by rw [← hL]; exact plaR_short
    have HV := Lib.hid hv
    have HL := Lib.hid hL
    clear hv hL
    have hne : (v != v) = false := by cases v <;> rfl
    have heq : (v == v) = true := by cases v <;> rfl
    go_wp2_with fail
    refine (implPlace_as _ _ _ xs (n : Int) v l _ P.out.piles HSM.out HV.out HL.out).mono ?_
    rintro e w2 ⟨a1, c1, rfl, ho, hb⟩
    have P := Lib.hid (P.out.below hb)
    have I1 := Lib.hid (IsInts.of_owned ho (by omega))
    have B := Lib.hid (B.out.trans (hb.mono B.out.size))
    clear hb ho
    go_wp2_with fail
    refine (specPlace_as _ _ _ xs (n : Int) v l _ P.out.piles HSM.out HV.out HL.out).mono ?_
    rintro e w3 ⟨a2, c2, rfl, ho, hb⟩
    have P := Lib.hid (P.out.below hb)
    have I1 := Lib.hid (I1.out.below hb)
    have I2 := Lib.hid (IsInts.of_owned ho (by omega))
    have B := Lib.hid (B.out.trans (hb.mono B.out.size))
    clear hb ho
    go_wp2_with fail
    refine (sameInts_self _ _ _ l _ _ _ I1.out I2.out).mono ?_
    rintro e w4 ⟨rfl, hd⟩
    have hb := hd.below w3.heap.size
    have P := Lib.hid (P.out.below hb)
    have I1 := Lib.hid (I1.out.below hb)
    have I2 := Lib.hid (I2.out.below hb)
    have B := Lib.hid (B.out.trans (hb.mono B.out.size))
    clear hb hd
    cases v
    · skip
      go_wp2_with fail
      refine (sameInts_self _ _ _ l _ _ _ I1.out I2.out).mono ?_
      rintro e w5 ⟨rfl, hd⟩
      have hb := hd.below w4.heap.size
      have P := Lib.hid (P.out.below hb)
      have I1 := Lib.hid (I1.out.below hb)
      have I2 := Lib.hid (I2.out.below hb)
      have B := Lib.hid (B.out.trans (hb.mono B.out.size))
      clear hb hd
      go_wp2
      go_ret
      exact ⟨rfl, B.out⟩
    · skip
      obtain ⟨hpv, hn1i, hn5i, -⟩ := fits_parts HV.out
      have hn1 : 1 ≤ n := by omega
      have hn5 : n ≤ 5 := by omega
      have HP := Lib.hid hpv
      clear hpv hn1i hn5i
      have hll : l.length = n := by rw [← HL.out, plaR, if_pos HV.out, Int.toNat_natCast, plaL_length]
      have HROW : Hid (∀ x, x < n → totI ((List.range n).map fun y => pairF xs x y) = l[x]?.getD 0) := fun x hx => by rw [← HL.out, plaR, if_pos HV.out, Int.toNat_natCast]; exact place_pairs hx (fits_both HV.out).2
      have HMOST : Hid (∀ x y, 0 ≤ pairF xs x y ∧ pairF xs x y ≤ 1188) := fun x y => by have := pairF_most HP.out xs.length x y; rwa [List.take_length] at this
      clear I2
      go_wp2_with fail
      refine (implPairCounts_as _ _ _ xs (n : Int) true _ P.out.piles HSM.out HV.out).mono ?_
      rintro e w5 (⟨h, _⟩ | ⟨-, gt, G, rfl, hT, -, hb⟩)
      · cases h
      rw [Int.toNat_natCast] at hT ⊢
      have P := Lib.hid (P.out.below hb)
      have I1 := Lib.hid (I1.out.below hb)
      have T := Lib.hid hT
      have B := Lib.hid (B.out.trans (hb.mono B.out.size))
      clear hb hT
      try rw [hll]
      try rw [hll] at I1
      go_wp2
      go_loopw [11] (fun iv wr => ∃ i : Nat, i ≤ n ∧ iv = .int .i64 (i : Int) ∧ Dr w5 wr) (fun iv _ => n - (intOf iv).toNat)
      case atStart => exact ⟨0, Nat.zero_le _, rfl, Dr.refl _⟩
      case round =>
        obtain ⟨x, hx, rfl, hd⟩ := hrel
        by_cases hlt : x < n
        · skip
          have TT := Lib.hid (T.out.under (hd.below _))
          have rx := TT.out.row_cell hlt (Nat.le_refl _)
          have RX := Lib.hid (tb_row TT.out hlt (by omega))
          obtain ⟨b1, o1, e1, hb1, hc1⟩ := (I1.out.dr hd).2.2.2 (by omega)
          subst e1
          have cl := hc1 x hlt
          obtain ⟨q, hq⟩ : ∃ q, l[x]?.getD 0 = q := ⟨_, rfl⟩
          rw [hq] at cl
          have HQ : Hid (totI ((List.range n).map fun y => pairF xs x y) = q) := by rw [Hid, HROW.out x hlt, hq]
          have HQB : Hid (∀ y : Nat, 0 ≤ ((List.range n).map fun y => pairF xs x y)[y]?.getD 0 ∧ ((List.range n).map fun y => pairF xs x y)[y]?.getD 0 ≤ 100000) := fun y => row_bound HMOST.out x y
          obtain ⟨gx, hgx⟩ : ∃ gx, G x = gx := ⟨_, rfl⟩
          rw [hgx] at rx RX
          have hne2 : (q != q) = false := by simp
          have hxi : (x : Int) < (n : Int) := by omega
          clear hc1 hq hgx
          go_wp2_with fail
          go_quiet (first | (go_at_call 21; exact quiet_same (sumOf_as _ _ _ _ q _ (RX.out.drewN _) (by omega) HQB.out HQ.out)))
          go_wp2
          go_roundw
          case rel => exact ⟨x + 1, by omega, by go_num, hd.drewN _⟩
          case measure => simp [intOf]; omega
        · obtain rfl : x = n := by omega
          have heqn : ((x : Int) == (x : Int)) = true := by simp
          go_wp2
          go_ret
          exact ⟨rfl, B.out.trans (hd.below _)⟩
  · clear w0
    go_enter Try.func7, Try.ntmps7
    go_wp2
    go_ret
    exact ⟨rfl, Below.refl _ _⟩

end Go.Proofs.Ytojfpnjnbpeniaa.fnPlaces
