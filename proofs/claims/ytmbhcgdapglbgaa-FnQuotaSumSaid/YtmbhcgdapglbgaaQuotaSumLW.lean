/-
  laws.FnQuotaSum returns true for every code. No condition.
-/
import Derived.Test.YtmbhcgdapglbgaaGrp1
import Derived.Test.YtmbhcgdapglbgaaDrawSr
import Derived.Test.YtmbhcgdapglbgaaRemX
import Derived.Test.YtmbhcgdapglbgaaRemI
import Derived.Test.YtmbhcgdapglbgaaRemQ
namespace Go.Proofs.Ytmbhcgdapglbgaa.fnQuotaSum
open Go.RowKit
set_option linter.unusedVariables false


set_option maxRecDepth 100000 in
set_option maxHeartbeats 2000000 in
/-- The law's walk: it returns true, and writes nothing that was there. -/
theorem walk (a0 : Option Addr) (len0 cap0 : Nat) (z0 : List Int) (w : World) (w0 : IsRow .u8 w a0 len0 cap0 z0) :
    Calls Try.prog 8 #[.slice a0 len0 cap0] w fun e w' => e = .returned (.bool true) ∧ Below w.heap.size w w' := by
  by_cases hl : len0 ≤ 1048576
  · skip
    have hcap := w0.cap
    have HB := Lib.hid w0.bytes; clear w0
    go_enter Try.func8, Try.ntmps8
    go_wp2_with fail
    refine (drawQuo_any a0 len0 cap0 _ _ HB.out hcap (by omega)).mono ?_
    rintro e w1 ⟨zs, av, cv, s, p, rfl, ho, hz5, hsb, hpb, hb⟩
    have B := Lib.hid hb
    obtain ⟨n, hn⟩ : ∃ n, zs.length = n := ⟨_, rfl⟩
    rw [hn] at ho hz5 ⊢
    have I := Lib.hid (IsInts.of_owned ho (by omega))
    have Hn := Lib.hid hn
    clear hb HB ho hn
    obtain ⟨x, hx⟩ : ∃ x, loR zs s p = x := ⟨_, rfl⟩
    obtain ⟨y, hy⟩ : ∃ y, hiR zs s p = y := ⟨_, rfl⟩
    have HX := Lib.hid hx
    have HY := Lib.hid hy
    clear hx hy
    have hnx : (x != x) = false := by simp
    have hny : (y != y) = false := by simp
    have hex : (x == x) = true := by simp
    have hey : (y == y) = true := by simp
    go_wp2_with fail
    refine (implQuo_as _ n cv zs s p x y _ I.out HX.out HY.out).mono ?_
    rintro e w2 ⟨rfl, hb⟩
    have I := Lib.hid (I.out.below hb)
    have B := Lib.hid (B.out.trans (hb.mono B.out.size))
    clear hb
    go_wp2_with fail
    refine (specQuo_as _ n cv zs s p x y _ I.out HX.out HY.out).mono ?_
    rintro e w3 ⟨rfl, hd⟩
    have hb := hd.below w2.heap.size
    have I := Lib.hid (I.out.below hb)
    have B := Lib.hid (B.out.trans (hb.mono B.out.size))
    clear hb hd
    cases hk : okQ zs s p
    · skip
      have hx1 : x = -1 := by rw [← HX.out, loR, if_neg (by rw [hk]; decide)]
      have hneg : decide (x < 0) = true := decide_eq_true (by omega)
      clear hx1 hk
      go_wp2
      go_ret
      exact ⟨rfl, B.out⟩
    obtain ⟨hvo, hs20, hp0, hpn⟩ := (okQ_iff _ _ _).1 hk
    rw [Hn.out] at hpn
    obtain ⟨q, rfl⟩ := Int.eq_ofNat_of_zero_le hp0
    have HX2 : Hid (loF zs s (q : Int) = x) := by rw [Hid, ← HX.out, loR, if_pos hk]
    have HY2 : Hid (hiF zs s (q : Int) = y) := by rw [Hid, ← HY.out, hiR, if_pos hk]
    have hsi := share_in hvo hs20 (z := (q : Int)) (by omega) (by rw [Hn.out]; exact hpn)
    have hhi := hi_eq (vs := zs) (s := s) hvo (q : Int)
    have VO := Lib.hid hvo
    have hqn : q < n := by omega
    have hqi : (q : Int) < (n : Int) := by omega
    have hn1 : 1 ≤ n ∧ n ≤ 5 := by have := (voteB_iff zs).1 VO.out; rw [Hn.out] at this; exact this.1.2
    have XV : Hid (toB zs 99 n = true) := by have := ((voteB_iff zs).1 VO.out).1.1; rw [Hn.out] at this; exact this
    rw [HX2.out] at hsi hhi
    rw [HY2.out] at hhi
    have hyb : y = x ∨ y = x + 1 := by rw [hhi]; split <;> simp
    obtain ⟨-, -, -, -, hx20, -⟩ := hsi
    have hneg : decide (x < 0) = false := decide_eq_false (by omega)
    clear hvo hk hhi
    have hps := p95_sum (vs := zs) (s := s) VO.out
    have HLO : Hid (∀ i : Nat, i < n → loR zs s (i : Int) = (loL zs s)[i]?.getD 0 ∧ hiR zs s (i : Int) = (hiL zs s)[i]?.getD 0) := fun i hi => by
      have ho : okQ zs s (i : Int) = true := (okQ_iff _ _ _).2 ⟨VO.out, hs20, by omega, by rw [Hn.out]; omega⟩
      rw [loR, hiR, if_pos ho, if_pos ho, loL_at s (by rw [Hn.out]; exact hi), hiL_at s (by rw [Hn.out]; exact hi)]
      exact ⟨rfl, rfl⟩
    have HBD : Hid (∀ i : Nat, i < n → (0 ≤ (loL zs s)[i]?.getD 0 ∧ (loL zs s)[i]?.getD 0 ≤ 100) ∧ (0 ≤ (hiL zs s)[i]?.getD 0 ∧ (hiL zs s)[i]?.getD 0 ≤ 100)) := fun i hi => by
      rw [loL_at s (by rw [Hn.out]; exact hi), hiL_at s (by rw [Hn.out]; exact hi)]
      have h1 := (share_in VO.out hs20 (z := (i : Int)) (by omega) (by rw [Hn.out]; omega)).2.2.2.2.1
      have h2 := hi_eq (vs := zs) (s := s) VO.out (i : Int)
      refine ⟨by omega, ?_⟩
      rw [h2]; split <;> omega
    have HLL : Hid ((loL zs s).length = n) := by rw [Hid, loL_length]; exact Hn.out
    have HHL : Hid ((hiL zs s).length = n) := by rw [Hid, hiL_length]; exact Hn.out
    go_wp2
    go_loopw [10, 11, 12, 13, 14] (fun xv yv iv _ _ wr => ∃ (i : Nat) (tx ty : Int), i ≤ n ∧ iv = .int .i64 (i : Int) ∧ xv = .int .i64 tx ∧ yv = .int .i64 ty ∧ Hid (totI ((loL zs s).take i) = tx) ∧ Hid (totI ((hiL zs s).take i) = ty) ∧ Below w3.heap.size w3 wr) (fun _ _ iv _ _ _ => n - (intOf iv).toNat)
    case atStart => exact ⟨0, 0, 0, Nat.zero_le _, rfl, rfl, rfl, by simp [Hid, totI_nil], by simp [Hid, totI_nil], Below.refl _ _⟩
    case round =>
      obtain ⟨i, tx, ty, hi, rfl, rfl, rfl, hTX, hTY, hd⟩ := hrel
      by_cases hlt : i < n
      · have hii : (i : Int) < (n : Int) := by omega
        have IW := Lib.hid (I.out.below hd)
        obtain ⟨e1, e2⟩ := HLO.out i hlt
        obtain ⟨b1, b2⟩ := HBD.out i hlt
        have tb1 := tot_bound (m := 100) (by omega) (fun x hx => (HBD.out x hx).1) i (by omega)
        have tb2 := tot_bound (m := 100) (by omega) (fun x hx => (HBD.out x hx).2) i (by omega)
        rw [hTX.out] at tb1
        rw [hTY.out] at tb2
        obtain ⟨a, ha⟩ : ∃ a, (loL zs s)[i]?.getD 0 = a := ⟨_, rfl⟩
        obtain ⟨b, hb⟩ : ∃ b, (hiL zs s)[i]?.getD 0 = b := ⟨_, rfl⟩
        rw [ha] at e1 b1
        rw [hb] at e2 b2
        have NX : Hid (totI ((loL zs s).take (i + 1)) = tx + a) := by rw [Hid, tot_take (by rw [HLL.out]; exact hlt), ha, hTX.out]
        have NY : Hid (totI ((hiL zs s).take (i + 1)) = ty + b) := by rw [Hid, tot_take (by rw [HHL.out]; exact hlt), hb, hTY.out]
        have E1 := Lib.hid e1
        have E2 := Lib.hid e2
        clear e1 e2 ha hb
        go_wp2_with fail
        refine (implQuo_as _ n cv zs s (i : Int) a b _ IW.out E1.out E2.out).mono ?_
        rintro e w8 ⟨rfl, hb8⟩
        have hd8 := hd.trans (hb8.mono hd.size)
        clear hb8
        go_wp2
        go_roundw
        case rel => exact ⟨i + 1, tx + a, ty + b, by omega, by go_num, rfl, rfl, NX, NY, hd8⟩
        case measure => simp [intOf]; omega
      · obtain rfl : i = n := by omega
        have t1 : totI (loL zs s) = tx := by rw [← hTX.out, List.take_of_length_le (by rw [HLL.out]; exact Nat.le_refl _)]
        have t2 : totI (hiL zs s) = ty := by rw [← hTY.out, List.take_of_length_le (by rw [HHL.out]; exact Nat.le_refl _)]
        rw [t1, t2] at hps
        have d1 : decide (tx ≤ s) = true := decide_eq_true hps.1
        have d2 : decide (s ≤ ty) = true := decide_eq_true hps.2
        clear t1 t2 hps
        go_wp2
        go_ret
        exact ⟨rfl, B.out.trans (hd.mono B.out.size)⟩
  · clear w0
    go_enter Try.func8, Try.ntmps8
    go_wp2
    go_ret
    exact ⟨rfl, Below.refl _ _⟩

end Go.Proofs.Ytmbhcgdapglbgaa.fnQuotaSum
