/-
  laws.FnFair returns true for every code. No condition.
-/
import Derived.Test.YtmbhcgdapglbgaaGrp1
import Derived.Test.YtmbhcgdapglbgaaDrawSr
import Derived.Test.YtmbhcgdapglbgaaRemX
import Derived.Test.YtmbhcgdapglbgaaRemI
import Derived.Test.YtmbhcgdapglbgaaRemQ
namespace Go.Proofs.Ytmbhcgdapglbgaa.fnFair
open Go.RowKit
set_option linter.unusedVariables false


set_option maxRecDepth 100000 in
set_option maxHeartbeats 2000000 in
/-- The law's walk: it returns true, and writes nothing that was there. -/
theorem walk (a0 : Option Addr) (len0 cap0 : Nat) (z0 : List Int) (w : World) (w0 : IsRow .u8 w a0 len0 cap0 z0) :
    Calls Try.prog 9 #[.slice a0 len0 cap0] w fun e w' => e = .returned (.bool true) ∧ Below w.heap.size w w' := by
  by_cases hl : len0 ≤ 1048576
  · skip
    have hcap := w0.cap
    have HB := Lib.hid w0.bytes; clear w0
    go_enter Try.func9, Try.ntmps9
    go_wp2_with fail
    refine (drawFair_any a0 len0 cap0 _ _ HB.out hcap (by omega)).mono ?_
    rintro e w1 ⟨zs, av, cv, gs, ag, cg, rfl, ho, hz5, hog, hg5, hb⟩
    have B := Lib.hid hb
    obtain ⟨n, hn⟩ : ∃ n, zs.length = n := ⟨_, rfl⟩
    rw [hn] at ho hz5 ⊢
    have I := Lib.hid (IsInts.of_owned ho (by omega))
    have Hn := Lib.hid hn
    obtain ⟨ng, hng⟩ : ∃ ng, gs.length = ng := ⟨_, rfl⟩
    rw [hng] at hog hg5 ⊢
    have G := Lib.hid (IsInts.of_owned hog (by omega))
    have Hng := Lib.hid hng
    clear hb HB ho hog hn hng
    obtain ⟨v, hv⟩ : ∃ v, fairB zs gs = v := ⟨_, rfl⟩
    have HV := Lib.hid hv
    clear hv
    have hne : (v != v) = false := by cases v <;> rfl
    have heq : (v == v) = true := by cases v <;> rfl
    go_wp2_with fail
    refine (implFair_as _ n cv zs _ ng cg gs v _ I.out G.out HV.out).mono ?_
    rintro e w2 ⟨rfl, hb⟩
    have I := Lib.hid (I.out.below hb)
    have G := Lib.hid (G.out.below hb)
    have B := Lib.hid (B.out.trans (hb.mono B.out.size))
    clear hb
    go_wp2_with fail
    refine (specFair_as _ n cv zs _ ng cg gs v _ I.out G.out HV.out).mono ?_
    rintro e w3 ⟨rfl, hd⟩
    have hb := hd.below w2.heap.size
    have I := Lib.hid (I.out.below hb)
    have G := Lib.hid (G.out.below hb)
    have B := Lib.hid (B.out.trans (hb.mono B.out.size))
    clear hb hd
    obtain ⟨S, hS⟩ : ∃ S, wS gs = S := ⟨_, rfl⟩
    have HS := Lib.hid hS
    clear hS
    go_wp2_with fail
    refine (lawSumW_as _ ng cg gs S _ G.out HS.out).mono ?_
    rintro e w9 ⟨rfl, rfl⟩
    obtain ⟨f0, hf0⟩ : ∃ f0, (decide (ng = n) && decide (0 < n)) = f0 := ⟨_, rfl⟩
    have HF0 : Hid (fineTo zs gs 0 = f0) := by rw [Hid, ← hf0]; unfold fineTo; rw [Hn.out, Hng.out]; simp
    obtain ⟨k, hk⟩ : ∃ k, (if ng < n then ng else n) = k := ⟨_, rfl⟩
    have HVK : Hid (fineTo zs gs k = v) := by rw [Hid, ← HV.out]; exact (p96_fine zs gs (by rw [Hn.out]; exact hz5) k (by rw [Hn.out, Hng.out]; exact hk.symm)).symm
    have hkk : k ≤ n ∧ k ≤ ng ∧ (k = n ∨ k = ng) := by rw [← hk]; split <;> omega
    clear hk
    by_cases hnn : ng = n
    · have e1 : ((ng : Int) == (n : Int)) = true := by simp; omega
      have hf1 : decide ((0 : Int) < (n : Int)) = f0 := by rw [← hf0, decide_eq_true hnn, Bool.true_and]; simp
      have hf2 : decide (0 < n) = f0 := by rw [← hf0, decide_eq_true hnn, Bool.true_and]
      clear hf0
      go_wp2
      go_loopw [8, 9, 10, 11] (fun fv iv _ _ wr => ∃ (i : Nat) (f : Bool), i ≤ k ∧ iv = .int .i64 (i : Int) ∧ fv = .bool f ∧ Hid (fineTo zs gs i = f) ∧ Below w3.heap.size w3 wr) (fun _ iv _ _ _ => k - (intOf iv).toNat)
      case atStart => exact ⟨0, f0, Nat.zero_le _, rfl, by first | rfl | (congr 1; exact rfl), HF0, Below.refl _ _⟩
      case round =>
        obtain ⟨i, f, hik, rfl, rfl, hF, hd⟩ := hrel
        by_cases hlt : i < k
        · have hin : i < n := by omega
          have hing : i < ng := by omega
          have hii : (i : Int) < (n : Int) := by omega
          have hig : (i : Int) < (ng : Int) := by omega
          have dn1 : decide ((i : Int) < (n : Int)) = true := decide_eq_true hii
          have dn2 : decide ((i : Int) < (ng : Int)) = true := decide_eq_true hig
          have dn3 : decide (i < n) = true := decide_eq_true hin
          have dn4 : decide (i < ng) = true := decide_eq_true hing
          obtain ⟨gb, go, hge, hgb, hgc⟩ := G.out.2.2.2 (by omega)
          have HST := fineTo_succ zs gs i
          rw [hF.out, HS.out] at HST
          obtain ⟨x, hx⟩ : ∃ x, loR zs S (i : Int) = x := ⟨_, rfl⟩
          obtain ⟨y, hy⟩ : ∃ y, hiR zs S (i : Int) = y := ⟨_, rfl⟩
          obtain ⟨z, hz⟩ : ∃ z, gs[i]?.getD 0 = z := ⟨_, rfl⟩
          rw [hx, hy, hz] at HST
          have HST := Lib.hid HST
          have HX := Lib.hid hx
          have HY := Lib.hid hy
          have IW := Lib.hid (I.out.below hd)
          have cg0 := hgc i hing
          rw [hz] at cg0
          subst hge
          clear hx hy hz hgc
          go_wp2_with fail
          refine (implQuo_as _ n cv zs S (i : Int) x y _ IW.out HX.out HY.out).mono ?_
          rintro e w8 ⟨rfl, hb8⟩
          have hd8 := hd.trans (hb8.mono hd.size)
          have cg8 := (hd8.cell (p := ⟨gb, go + i, none⟩) hgb).trans cg0
          clear hb8 cg0
          cases f
          · go_wp2
            go_roundw
            case rel => exact ⟨i + 1, false, by omega, by go_num, rfl, by rw [Hid, HST.out]; rfl, hd8⟩
            case measure => simp [intOf]; omega
          · by_cases c1 : 0 ≤ x
            · have e1 : decide (0 ≤ x) = true := decide_eq_true c1
              by_cases c2 : x ≤ z
              · have e2 : decide (x ≤ z) = true := decide_eq_true c2
                by_cases c3 : z ≤ y
                · have e3 : decide (z ≤ y) = true := decide_eq_true c3
                  go_wp2
                  go_roundw
                  case rel => exact ⟨i + 1, true, by omega, by go_num, rfl, by rw [Hid, HST.out]; rw [e1, e2, e3]; rfl, hd8⟩
                  case measure => simp [intOf]; omega
                · have e3 : decide (z ≤ y) = false := decide_eq_false c3
                  go_wp2
                  go_roundw
                  case rel => exact ⟨i + 1, false, by omega, by go_num, rfl, by rw [Hid, HST.out]; rw [e1, e2, e3]; rfl, hd8⟩
                  case measure => simp [intOf]; omega
              · have e2 : decide (x ≤ z) = false := decide_eq_false c2
                go_wp2
                go_roundw
                case rel => exact ⟨i + 1, false, by omega, by go_num, rfl, by rw [Hid, HST.out]; rw [e1, e2]; rfl, hd8⟩
                case measure => simp [intOf]; omega
            · have e1 : decide (0 ≤ x) = false := decide_eq_false c1
              go_wp2
              go_roundw
              case rel => exact ⟨i + 1, false, by omega, by go_num, rfl, by rw [Hid, HST.out]; rw [e1]; rfl, hd8⟩
              case measure => simp [intOf]; omega
        · obtain rfl : i = k := by omega
          have HFV : Hid (v = f) := by rw [Hid, ← HVK.out, ← hF.out]
          have hvf : (v == f) = true := by rw [HFV.out]; cases f <;> rfl
          have hdn : decide ((i : Int) < (n : Int)) = false ∨ (decide ((i : Int) < (n : Int)) = true ∧ decide ((i : Int) < (ng : Int)) = false) := by
            by_cases h : i < n
            · right
              exact ⟨decide_eq_true (by omega), decide_eq_false (by omega)⟩
            · left
              exact decide_eq_false (by omega)
          rcases hdn with h1 | ⟨h1, h2⟩
          · have h1n : decide (i < n) = false := by simpa using h1
            go_wp2
            go_ret
            exact ⟨rfl, B.out.trans (hd.mono B.out.size)⟩
          · have h1n : decide (i < n) = true := by simpa using h1
            have h2n : decide (i < ng) = false := by simpa using h2
            first
              | (exfalso; have a1 := of_decide_eq_true h1; have a2 := of_decide_eq_false h2; omega)
              | (go_wp2; go_ret; exact ⟨rfl, B.out.trans (hd.mono B.out.size)⟩)
    · have e1 : ((ng : Int) == (n : Int)) = false := by simp; omega
      have hf1 : f0 = false := by rw [← hf0, decide_eq_false hnn]; rfl
      subst hf1
      clear hf0
      go_wp2
      go_loopw [8, 9, 10, 11] (fun fv iv _ _ wr => ∃ (i : Nat) (f : Bool), i ≤ k ∧ iv = .int .i64 (i : Int) ∧ fv = .bool f ∧ Hid (fineTo zs gs i = f) ∧ Below w3.heap.size w3 wr) (fun _ iv _ _ _ => k - (intOf iv).toNat)
      case atStart => exact ⟨0, false, Nat.zero_le _, rfl, by first | rfl | (congr 1; exact rfl), HF0, Below.refl _ _⟩
      case round =>
        obtain ⟨i, f, hik, rfl, rfl, hF, hd⟩ := hrel
        by_cases hlt : i < k
        · have hin : i < n := by omega
          have hing : i < ng := by omega
          have hii : (i : Int) < (n : Int) := by omega
          have hig : (i : Int) < (ng : Int) := by omega
          have dn1 : decide ((i : Int) < (n : Int)) = true := decide_eq_true hii
          have dn2 : decide ((i : Int) < (ng : Int)) = true := decide_eq_true hig
          have dn3 : decide (i < n) = true := decide_eq_true hin
          have dn4 : decide (i < ng) = true := decide_eq_true hing
          obtain ⟨gb, go, hge, hgb, hgc⟩ := G.out.2.2.2 (by omega)
          have HST := fineTo_succ zs gs i
          rw [hF.out, HS.out] at HST
          obtain ⟨x, hx⟩ : ∃ x, loR zs S (i : Int) = x := ⟨_, rfl⟩
          obtain ⟨y, hy⟩ : ∃ y, hiR zs S (i : Int) = y := ⟨_, rfl⟩
          obtain ⟨z, hz⟩ : ∃ z, gs[i]?.getD 0 = z := ⟨_, rfl⟩
          rw [hx, hy, hz] at HST
          have HST := Lib.hid HST
          have HX := Lib.hid hx
          have HY := Lib.hid hy
          have IW := Lib.hid (I.out.below hd)
          have cg0 := hgc i hing
          rw [hz] at cg0
          subst hge
          clear hx hy hz hgc
          go_wp2_with fail
          refine (implQuo_as _ n cv zs S (i : Int) x y _ IW.out HX.out HY.out).mono ?_
          rintro e w8 ⟨rfl, hb8⟩
          have hd8 := hd.trans (hb8.mono hd.size)
          have cg8 := (hd8.cell (p := ⟨gb, go + i, none⟩) hgb).trans cg0
          clear hb8 cg0
          cases f
          · go_wp2
            go_roundw
            case rel => exact ⟨i + 1, false, by omega, by go_num, rfl, by rw [Hid, HST.out]; rfl, hd8⟩
            case measure => simp [intOf]; omega
          · by_cases c1 : 0 ≤ x
            · have e1 : decide (0 ≤ x) = true := decide_eq_true c1
              by_cases c2 : x ≤ z
              · have e2 : decide (x ≤ z) = true := decide_eq_true c2
                by_cases c3 : z ≤ y
                · have e3 : decide (z ≤ y) = true := decide_eq_true c3
                  go_wp2
                  go_roundw
                  case rel => exact ⟨i + 1, true, by omega, by go_num, rfl, by rw [Hid, HST.out]; rw [e1, e2, e3]; rfl, hd8⟩
                  case measure => simp [intOf]; omega
                · have e3 : decide (z ≤ y) = false := decide_eq_false c3
                  go_wp2
                  go_roundw
                  case rel => exact ⟨i + 1, false, by omega, by go_num, rfl, by rw [Hid, HST.out]; rw [e1, e2, e3]; rfl, hd8⟩
                  case measure => simp [intOf]; omega
              · have e2 : decide (x ≤ z) = false := decide_eq_false c2
                go_wp2
                go_roundw
                case rel => exact ⟨i + 1, false, by omega, by go_num, rfl, by rw [Hid, HST.out]; rw [e1, e2]; rfl, hd8⟩
                case measure => simp [intOf]; omega
            · have e1 : decide (0 ≤ x) = false := decide_eq_false c1
              go_wp2
              go_roundw
              case rel => exact ⟨i + 1, false, by omega, by go_num, rfl, by rw [Hid, HST.out]; rw [e1]; rfl, hd8⟩
              case measure => simp [intOf]; omega
        · obtain rfl : i = k := by omega
          have HFV : Hid (v = f) := by rw [Hid, ← HVK.out, ← hF.out]
          have hvf : (v == f) = true := by rw [HFV.out]; cases f <;> rfl
          have hdn : decide ((i : Int) < (n : Int)) = false ∨ (decide ((i : Int) < (n : Int)) = true ∧ decide ((i : Int) < (ng : Int)) = false) := by
            by_cases h : i < n
            · right
              exact ⟨decide_eq_true (by omega), decide_eq_false (by omega)⟩
            · left
              exact decide_eq_false (by omega)
          rcases hdn with h1 | ⟨h1, h2⟩
          · have h1n : decide (i < n) = false := by simpa using h1
            go_wp2
            go_ret
            exact ⟨rfl, B.out.trans (hd.mono B.out.size)⟩
          · have h1n : decide (i < n) = true := by simpa using h1
            have h2n : decide (i < ng) = false := by simpa using h2
            first
              | (exfalso; have a1 := of_decide_eq_true h1; have a2 := of_decide_eq_false h2; omega)
              | (go_wp2; go_ret; exact ⟨rfl, B.out.trans (hd.mono B.out.size)⟩)
  · clear w0
    go_enter Try.func9, Try.ntmps9
    go_wp2
    go_ret
    exact ⟨rfl, Below.refl _ _⟩

end Go.Proofs.Ytmbhcgdapglbgaa.fnFair
