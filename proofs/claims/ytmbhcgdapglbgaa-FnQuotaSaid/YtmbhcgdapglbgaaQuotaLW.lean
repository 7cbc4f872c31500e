/-
  laws.FnQuota returns true for every code. No condition.
-/
import Derived.Test.YtmbhcgdapglbgaaGrp1
import Derived.Test.YtmbhcgdapglbgaaDrawSr
import Derived.Test.YtmbhcgdapglbgaaRemX
import Derived.Test.YtmbhcgdapglbgaaRemI
import Derived.Test.YtmbhcgdapglbgaaRemQ
namespace Go.Proofs.Ytmbhcgdapglbgaa.fnQuota
open Go.RowKit
set_option linter.unusedVariables false


set_option maxRecDepth 100000 in
set_option maxHeartbeats 2000000 in
/-- The law's walk: it returns true, and writes nothing that was there. -/
theorem walk (a0 : Option Addr) (len0 cap0 : Nat) (z0 : List Int) (w : World) (w0 : IsRow .u8 w a0 len0 cap0 z0) :
    Calls Try.prog 7 #[.slice a0 len0 cap0] w fun e w' => e = .returned (.bool true) ∧ Below w.heap.size w w' := by
  by_cases hl : len0 ≤ 1048576
  · skip
    have hcap := w0.cap
    have HB := Lib.hid w0.bytes; clear w0
    go_enter Try.func7, Try.ntmps7
    go_wp2_with fail
    refine (drawQuo_any a0 len0 cap0 _ _ HB.out hcap (by omega)).mono ?_
    rintro e w1 ⟨zs, av, cv, s, p, rfl, ho, hz5, hsb, hpb, hb⟩
    have B := Lib.hid hb
    obtain ⟨n, hn⟩ : ∃ n, zs.length = n := ⟨_, rfl⟩
    rw [hn] at ho hz5 ⊢
    have I := Lib.hid (IsInts.of_owned ho (by omega))
    have Hn := Lib.hid hn
    clear hb HB ho hn
    obtain ⟨x, hx⟩ : ∃ x, loR zs s p = x := ⟨_, rfl⟩
    obtain ⟨y, hy⟩ : ∃ y, hiR zs s p = y := ⟨_, rfl⟩
    have HX := Lib.hid hx
    have HY := Lib.hid hy
    clear hx hy
    have hnx : (x != x) = false := by simp
    have hny : (y != y) = false := by simp
    have hex : (x == x) = true := by simp
    have hey : (y == y) = true := by simp
    go_wp2_with fail
    refine (implQuo_as _ n cv zs s p x y _ I.out HX.out HY.out).mono ?_
    rintro e w2 ⟨rfl, hb⟩
    have I := Lib.hid (I.out.below hb)
    have B := Lib.hid (B.out.trans (hb.mono B.out.size))
    clear hb
    go_wp2_with fail
    refine (specQuo_as _ n cv zs s p x y _ I.out HX.out HY.out).mono ?_
    rintro e w3 ⟨rfl, hd⟩
    have hb := hd.below w2.heap.size
    have I := Lib.hid (I.out.below hb)
    have B := Lib.hid (B.out.trans (hb.mono B.out.size))
    clear hb hd
    cases hk : okQ zs s p
    · skip
      have hx1 : x = -1 := by rw [← HX.out, loR, if_neg (by rw [hk]; decide)]
      have hneg : decide (x < 0) = true := decide_eq_true (by omega)
      clear hx1 hk
      go_wp2
      go_ret
      exact ⟨rfl, B.out⟩
    obtain ⟨hvo, hs20, hp0, hpn⟩ := (okQ_iff _ _ _).1 hk
    rw [Hn.out] at hpn
    obtain ⟨q, rfl⟩ := Int.eq_ofNat_of_zero_le hp0
    have HX2 : Hid (loF zs s (q : Int) = x) := by rw [Hid, ← HX.out, loR, if_pos hk]
    have HY2 : Hid (hiF zs s (q : Int) = y) := by rw [Hid, ← HY.out, hiR, if_pos hk]
    have hsi := share_in hvo hs20 (z := (q : Int)) (by omega) (by rw [Hn.out]; exact hpn)
    have hhi := hi_eq (vs := zs) (s := s) hvo (q : Int)
    have VO := Lib.hid hvo
    have hqn : q < n := by omega
    have hqi : (q : Int) < (n : Int) := by omega
    have hn1 : 1 ≤ n ∧ n ≤ 5 := by have := (voteB_iff zs).1 VO.out; rw [Hn.out] at this; exact this.1.2
    have XV : Hid (toB zs 99 n = true) := by have := ((voteB_iff zs).1 VO.out).1.1; rw [Hn.out] at this; exact this
    rw [HX2.out] at hsi hhi
    rw [HY2.out] at hhi
    have hyb : y = x ∨ y = x + 1 := by rw [hhi]; split <;> simp
    obtain ⟨-, -, -, -, hx20, -⟩ := hsi
    have hneg : decide (x < 0) = false := decide_eq_false (by omega)
    clear hvo hk hhi
    have hqq := p94_quota (vs := zs) (s := s) VO.out q
    obtain ⟨T, hT⟩ : ∃ T, totI zs = T := ⟨_, rfl⟩
    have HT := Lib.hid hT
    have hTb : 0 < T ∧ T ≤ 495 := by have h1 := share_in VO.out hs20 (z := (q : Int)) (by omega) (by rw [Hn.out]; omega); rw [hT] at h1; exact ⟨h1.1, h1.2.1⟩
    have HB1 : Hid (∀ x : Nat, x < n → 0 ≤ zs[x]?.getD 0 ∧ zs[x]?.getD 0 ≤ 100000) := fun x hx => by have := toB_at XV.out hx; omega
    have hTz : (T == 0) = false := beq_eq_false_iff_ne.2 (by omega)
    rw [HX2.out, HY2.out, hT] at hqq
    clear hT
    go_wp2_with fail
    refine (lawSum_as _ n cv zs T _ I.out (by omega) HB1.out HT.out).mono ?_
    rintro e w9 ⟨rfl, rfl⟩
    obtain ⟨vb, vo, rfl, hvb, hvc⟩ := I.out.2.2.2 (by omega)
    have cq := hvc q hqn
    have hz99 := toB_at XV.out hqn
    obtain ⟨z, hz⟩ : ∃ z, zs[q]?.getD 0 = z := ⟨_, rfl⟩
    rw [hz] at cq hz99 hqq
    have q4 := mul_in (v := z) (s := s) hz99 hs20
    obtain ⟨p, hp⟩ : ∃ p, z * s = p := ⟨_, rfl⟩
    rw [hp] at q4 hqq
    have hw1 : IntKind.i64.wrap (z * s) = p := by rw [hp]; exact IntWalk.i64_in _ (by omega)
    obtain ⟨h1, h2, h3, h4⟩ := hqq
    have b1 := mul_bound (x := x) (y := T) ⟨by omega, by omega⟩ ⟨by omega, by omega⟩
    have b2 := mul_bound (x := y) (y := T) ⟨by omega, by omega⟩ ⟨by omega, by omega⟩
    have hw2 : IntKind.i64.wrap (x * T) = x * T := IntWalk.i64_in _ (by omega)
    have hw3 : IntKind.i64.wrap (y * T) = y * T := IntWalk.i64_in _ (by omega)
    have hw4 : IntKind.i64.wrap (y - x) = y - x := IntWalk.i64_in _ (by omega)
    have d1 : decide (x * T ≤ p) = true := decide_eq_true h1
    have d2 : decide (p ≤ y * T) = true := decide_eq_true h2
    have d3 : decide (y - x ≤ 1) = true := decide_eq_true h3
    have d3' : decide (y ≤ 1 + x) = true := decide_eq_true (by omega)
    obtain ⟨m, hm⟩ : ∃ m, p % T = m := ⟨_, rfl⟩
    have hmb : 0 ≤ m ∧ m < T := by rw [← hm]; exact ⟨Int.emod_nonneg _ (by omega), Int.emod_lt_of_pos _ hTb.1⟩
    have hr : p.tmod T = m := by rw [← hm]; exact Int.tmod_eq_emod_of_nonneg (by omega)
    have hwm : IntKind.i64.wrap m = m := IntWalk.i64_in _ (by omega)
    rw [hm] at h4
    clear hvc hz hp hz99 h1 h2 h3 b1 b2 hm
    by_cases h5 : y = x
    · have hm0 := h4.1 h5
      have d4 : (y == x) = true := by simp [h5]
      have d5 : (m == 0) = true := by simp [hm0]
      clear h4 h5 hm0
      go_wp2
      go_ret
      exact ⟨rfl, B.out⟩
    · have hm0 : ¬ m = 0 := fun e => h5 (h4.2 e)
      have d4 : (y == x) = false := by simp [h5]
      have d5 : (m == 0) = false := by simp [hm0]
      clear h4 h5 hm0
      go_wp2
      go_ret
      exact ⟨rfl, B.out⟩
  · clear w0
    go_enter Try.func7, Try.ntmps7
    go_wp2
    go_ret
    exact ⟨rfl, Below.refl _ _⟩

end Go.Proofs.Ytmbhcgdapglbgaa.fnQuota
