/-
  laws.FnLotsAll returns true for every code: impl.LotsOf answers as the model does at the drawn numbers, and of two or more candidates some seed below 120 gives the lots whose first two are exchanged. No condition but what the statement says itself (a code of at most 2^20 bytes).
-/
import Derived.Test.YtapmmbngfklahaaOpen
import Derived.Test.YtapmmbngfklahaaLotOS
import Derived.Test.YtapmmbngfklahaaLotOI
import Derived.Test.YtapmmbngfklahaaLotD
import Derived.Test.YtapmmbngfklahaaSame
import Derived.Test.YtapmmbngfklahaaQB
namespace Go.Proofs.Ytapmmbngfklahaa.fnLotsAll
open Go.RowKit
set_option linter.unusedVariables false

theorem sameInts_as (a : Option Addr) (len cap : Nat) (zs : List Int) (b : Option Addr) (len' cap' : Nat) (ys : List Int) (v : Bool) (w : World) (h : IsInts w a len cap zs) (h' : IsInts w b len' cap' ys) (hv : eqB zs ys = v) :
    Calls Try.prog 16 #[.slice a len cap, .slice b len' cap'] w fun e w' => e = .returned (.bool v) ∧ Dr w w' := by
  subst hv; exact sameInts_any a len cap zs b len' cap' ys w h h'
theorem tail_two {w : World} {g len cap : Nat} {zs : List Int} (h : IsInts w (some ⟨g, 0, none⟩) len cap zs) (h2 : 2 ≤ len) : IsInts w (if cap = 2 then some ⟨g, 0, none⟩ else some ⟨g, 2, none⟩) (len - 2) (cap - 2) (zs.drop 2) := by
  obtain ⟨h1, h2', h3, h4⟩ := h
  refine ⟨by simp; omega, by omega, by omega, fun hp => ?_⟩
  obtain ⟨b, off, e, hb, hc⟩ := h4 (by omega)
  injection e with e
  injection e with e1 e2 _
  subst e1; subst e2
  refine ⟨g, 2, if_neg (by omega), hb, fun j hj => ?_⟩
  have := hc (2 + j) (by omega)
  rw [Nat.zero_add] at this
  rw [this, List.getElem?_drop]
theorem three_parts {xs pl : List Int} (h2 : 2 ≤ xs.length) (h1 : xs[0]?.getD 0 = pl[1]?.getD 0) (h0 : xs[1]?.getD 0 = pl[0]?.getD 0) (h3 : xs.drop 2 = pl.drop 2) : xs = pl[1]?.getD 0 :: pl[0]?.getD 0 :: pl.drop 2 := by
  match xs, h2 with
  | a :: b :: t, _ => simp at h1 h0 h3 ⊢; exact ⟨h1, h0, h3⟩
theorem parts_not {xs pl : List Int} {a b : Int} (h : xs = a :: b :: pl.drop 2) : xs[0]?.getD 0 = a ∧ xs[1]?.getD 0 = b ∧ xs.drop 2 = pl.drop 2 := by subst h; simp
set_option maxRecDepth 100000 in
set_option maxHeartbeats 8000000 in
/-- The law's walk: it returns true, and writes nothing that was there. -/
theorem walk (a0 : Option Addr) (len0 cap0 : Nat) (z0 : List Int) (w : World) (w0 : IsRow .u8 w a0 len0 cap0 z0) :
    Calls Try.prog 5 #[.slice a0 len0 cap0] w fun e w' => e = .returned (.bool true) ∧ Below w.heap.size w w' := by
  by_cases hl : len0 ≤ 1048576
  · have hcap := w0.cap
    have HB := Lib.hid w0.bytes; clear w0
    go_enter Try.func5, Try.ntmps5
    go_wp2_with fail
    refine (drawLotsOf_any a0 len0 cap0 _ _ HB.out hcap (by omega)).mono ?_
    rintro e w1 ⟨x, y, rfl, hx, hy, hb⟩
    have B1 := Lib.hid hb; clear hb HB
    obtain ⟨pl, hpl⟩ : ∃ pl, lotsI x y = pl := ⟨_, rfl⟩
    obtain ⟨ok, hok⟩ : ∃ ok, okLots x y = ok := ⟨_, rfl⟩
    have hp5 : pl.length ≤ 5 := by rw [← hpl]; exact lotsI_short x y
    have HP := Lib.hid hpl
    have HK := Lib.hid hok
    clear hpl hok
    have he : eqB pl pl = true := eqB_self pl
    have hne : (ok != ok) = false := by cases ok <;> rfl
    have heq : (ok == ok) = true := by cases ok <;> rfl
    go_wp2_with fail
    refine (implLotsOf_as _ _ pl ok _ HP.out HK.out).mono ?_
    rintro e w2 ⟨a2, c2, rfl, ho, hb⟩
    have O2 := Lib.hid ho; clear ho
    have B2 := Lib.hid (B1.out.trans (hb.mono B1.out.size)); clear hb B1
    go_wp2_with fail
    refine (specLotsOf_as _ _ pl ok _ HP.out HK.out).mono ?_
    rintro e w3 ⟨a3, c3, rfl, ho, hb⟩
    have I3 := Lib.hid (IsInts.of_owned ho (by omega)); clear ho
    have O2 := Lib.hid (owns_under O2.out hb)
    have B3 := Lib.hid (B2.out.trans (hb.mono B2.out.size)); clear hb B2
    go_wp2_with fail
    refine (sameInts_any _ _ _ pl _ _ _ pl _ (IsInts.of_owned O2.out (by omega)) I3.out).mono ?_
    rintro e w4 ⟨rfl, hd⟩
    have O2 := Lib.hid (owns_under O2.out (hd.below _))
    have I3 := Lib.hid (I3.out.dr hd)
    have B4 := Lib.hid (B3.out.trans (hd.below _)); clear hd B3
    cases hk : ok
    · subst hk
      go_wp2_with fail
      refine (sameInts_any _ _ _ pl _ _ _ pl _ (IsInts.of_owned O2.out (by omega)) I3.out).mono ?_
      rintro e w5 ⟨rfl, hd⟩
      have B5 := Lib.hid (B4.out.trans (hd.below _)); clear hd B4
      go_wp2
      go_ret
      exact ⟨rfl, B5.out⟩
    · subst hk
      obtain ⟨⟨hx1, hx5⟩, hy0, hy9⟩ := okLots_of HK.out
      have hle : (pl.length : Int) = x := by rw [← HP.out]; exact lotsI_length HK.out
      obtain ⟨n, rfl⟩ := Int.eq_ofNat_of_zero_le (show 0 ≤ x by omega)
      have hnl : pl.length = n := by omega
      by_cases hn2 : n < 2
      · have hd2 : decide ((n : Int) < 2) = true := decide_eq_true (by omega)
        have hd2' : decide (n < 2) = true := decide_eq_true hn2
        clear hle hnl
        go_wp2_with fail
        refine (sameInts_any _ _ _ pl _ _ _ pl _ (IsInts.of_owned O2.out (by omega)) I3.out).mono ?_
        rintro e w5 ⟨rfl, hd⟩
        have B5 := Lib.hid (B4.out.trans (hd.below _)); clear hd B4
        go_wp2
        go_ret
        exact ⟨rfl, B5.out⟩
      · have hd2 : decide ((n : Int) < 2) = false := decide_eq_false (by omega)
        have hd2' : decide (n < 2) = false := decide_eq_false hn2
        have h2p : 2 ≤ pl.length := by omega
        have HSW := Lib.hid (lotsI_swap HK.out (by omega))
        rw [HP.out] at HSW
        have HNL := Lib.hid hnl
        obtain ⟨g, rfl, hg2, hgc, hgm⟩ := owned_at O2.out (by omega)
        have PC : Hid (∀ j, j < pl.length → w4.cell? ⟨g, j, none⟩ = some (.int .i64 (pl[j]?.getD 0))) := fun j hj => by
          rw [O2.out.cellAt j (by omega)]; simp [hj]
        have PI0 := Lib.hid (IsInts.of_owned O2.out (by omega))
        have hlpn : (2 : Int) ≤ (pl.length : Int) := by omega
        have hlpc : (pl.length : Int) ≤ (c2 : Int) := by omega
        have hc2 : (2 : Int) ≤ (c2 : Int) := by omega
        clear hle hnl
        go_wp2
        go_loopw [9] (fun sv wr => ∃ s : Nat, s ≤ 120 ∧ sv = .int .i64 (s : Int) ∧ Hid (∀ q, q < s → lotsI (n : Int) (q : Int) ≠ pl[1]?.getD 0 :: pl[0]?.getD 0 :: pl.drop 2) ∧ Below w4.heap.size w4 wr) (fun sv _ => 120 - (intOf sv).toNat)
        case atStart => exact ⟨0, by omega, rfl, fun q hq => by omega, Below.refl _ _⟩
        case round =>
          obtain ⟨s, hs, rfl, hno, hB⟩ := hrel
          by_cases hlt : s < 120
          · have HKs : Hid (okLots (n : Int) (s : Int) = true) := okLots_yes hx1 hx5 (by omega) (by omega)
            obtain ⟨xs, hxs⟩ : ∃ xs, lotsI (n : Int) (s : Int) = xs := ⟨_, rfl⟩
            have hxl : xs.length = n := by have := lotsI_length HKs.out; rw [hxs] at this; omega
            have HXS := Lib.hid hxs
            have hds : decide ((s : Int) < 120) = true := decide_eq_true (by omega)
            have hds' : decide (s < 120) = true := decide_eq_true hlt
            have hxi : ((xs.length : Int) == (n : Int)) = true := by simp [hxl]
            have h2x : 2 ≤ xs.length := by omega
            have hx9 : xs.length ≤ 5 := by omega
            clear hxs hxl
            go_wp2_with fail
            refine (implLotsOf_as _ _ xs true _ HXS.out HKs.out).mono ?_
            rintro e w6 ⟨a6, c6, rfl, ho, hb⟩
            have PB := hB.trans (hb.mono hB.size)
            have B6 := Lib.hid (B4.out.trans (PB.mono B4.out.size))
            have PBh := Lib.hid PB
            obtain ⟨gx, rfl, hgx, hxc, hxm⟩ := owned_at ho (by omega)
            have XI := Lib.hid (IsInts.of_owned ho (by omega))
            have PI := Lib.hid (PI0.out.below PB)
            have hp0 : w6.cell? ⟨g, 0, none⟩ = some (.int .i64 (pl[0]?.getD 0)) := (PB.cell (p := ⟨g, 0, none⟩) hg2).trans (PC.out 0 (by omega))
            have hp1 : w6.cell? ⟨g, 1, none⟩ = some (.int .i64 (pl[1]?.getD 0)) := (PB.cell (p := ⟨g, 1, none⟩) hg2).trans (PC.out 1 (by omega))
            have hx0 : w6.cell? ⟨gx, 0, none⟩ = some (.int .i64 (xs[0]?.getD 0)) := by rw [ho.cellAt 0 (by omega)]; simp [show 0 < xs.length by omega]
            have hx1' : w6.cell? ⟨gx, 1, none⟩ = some (.int .i64 (xs[1]?.getD 0)) := by rw [ho.cellAt 1 (by omega)]; simp [show 1 < xs.length by omega]
            have hg6 : g < w6.heap.size := Nat.lt_of_lt_of_le hg2 PB.size
            have HT := Lib.hid (three_parts (xs := xs) (pl := pl) h2x)
            obtain ⟨p0, e0⟩ : ∃ p0, pl[0]?.getD 0 = p0 := ⟨_, rfl⟩
            obtain ⟨p1, e1⟩ : ∃ p1, pl[1]?.getD 0 = p1 := ⟨_, rfl⟩
            obtain ⟨q0, f0⟩ : ∃ q0, xs[0]?.getD 0 = q0 := ⟨_, rfl⟩
            obtain ⟨q1, f1⟩ : ∃ q1, xs[1]?.getD 0 = q1 := ⟨_, rfl⟩
            rw [e0] at hp0; rw [e1] at hp1; rw [f0] at hx0; rw [f1] at hx1'
            rw [e0, e1, f0, f1] at HT
            have HNX : Hid (∀ (h : ¬ (q0 = p1 ∧ q1 = p0 ∧ xs.drop 2 = pl.drop 2)), xs ≠ p1 :: p0 :: pl.drop 2) := fun h e => by
              have := parts_not e
              rw [f0, f1] at this
              exact h this
            have E0 := Lib.hid e0
            have E1 := Lib.hid e1
            have u0 : ∀ u : Beh w6, u.w.cell? ⟨g, 0, none⟩ = some (.int .i64 p0) := Beh.cell hp0 hg6
            have u1 : ∀ u : Beh w6, u.w.cell? ⟨g, 1, none⟩ = some (.int .i64 p1) := Beh.cell hp1 hg6
            have u2 : ∀ u : Beh w6, u.w.cell? ⟨gx, 0, none⟩ = some (.int .i64 q0) := Beh.cell hx0 hgx
            have u3 : ∀ u : Beh w6, u.w.cell? ⟨gx, 1, none⟩ = some (.int .i64 q1) := Beh.cell hx1' hgx
            have hal : Hid (Below w.heap.size w w6) := B6.out
            obtain ⟨b1, hb1⟩ : ∃ b1, (q0 == p1) = b1 := ⟨_, rfl⟩
            obtain ⟨b2, hb2⟩ : ∃ b2, (q1 == p0) = b2 := ⟨_, rfl⟩
            obtain ⟨e3, hb3⟩ : ∃ e3, eqB (xs.drop 2) (pl.drop 2) = e3 := ⟨_, rfl⟩
            have HE3 := Lib.hid hb3
            have HXN : Hid ((b1 && b2 && e3) = true ↔ xs = p1 :: p0 :: pl.drop 2) := by
              constructor
              · intro h
                simp only [Bool.and_eq_true] at h
                obtain ⟨⟨h1, h2⟩, h3⟩ := h
                rw [h1] at hb1; rw [h2] at hb2; rw [h3] at hb3
                exact HT.out (by simpa using hb1) (by simpa using hb2) (by simpa [eqB] using hb3)
              · intro h
                have k := parts_not h
                rw [f0, f1] at k
                obtain ⟨k1, k2, k3⟩ := k
                subst hb1; subst hb2; subst hb3
                simp [k1, k2, k3, eqB]
            have hxlc : (xs.length : Int) ≤ (c6 : Int) := by omega
            have hxl2 : (2 : Int) ≤ (xs.length : Int) := by omega
            have hx2c : (2 : Int) ≤ (c6 : Int) := by omega
            clear e0 e1 f0 f1 hb3 ho hb hp0 hp1 hx0 hx1' HT HNX PB
            have hgo : ∀ Q : Prop, (b1 = true → b2 = true → e3 = true → Q) → (b1 = false → Q) → (b1 = true → b2 = false → Q) → (b1 = true → b2 = true → e3 = false → Q) → Q := fun Q k1 k2 k3 k4 => by
              cases b1
              · exact k2 rfl
              · cases b2
                · exact k3 rfl rfl
                · cases e3
                  · exact k4 rfl rfl rfl
                  · exact k1 rfl rfl rfl
            have TX := Lib.hid (tail_two XI.out h2x)
            have TP := Lib.hid (tail_two PI.out h2p)
            refine hgo _ (fun h1 h2 h3 => ?_) (fun h1 => ?_) (fun h1 h2 => ?_) (fun h1 h2 h3 => ?_)
            case refine_1 =>
              subst h1; subst h2; subst h3
              go_wp2_with fail
              refine wp_region_below (by kernel_rfl) (by kernel_rfl) ?_
              repeat (go_big_quiet_step ((go_at_call 16; exact Calls.behDr (sameInts_as _ _ _ (xs.drop 2) _ _ _ (pl.drop 2) _ _ (TX.out.below (Beh.below _)) (TP.out.below (Beh.below _)) HE3.out))))
              refine wpQuiet_nil ?_
              rintro _ ⟨⟨w7, hb7⟩, rfl⟩
              have B7 := B6.out.trans (hb7.mono B6.out.size)
              try generalize (if c6 = 2 then some (⟨gx, 0, none⟩ : Addr) else some ⟨gx, 2, none⟩) = ax
              try generalize (if c2 = 2 then some (⟨g, 0, none⟩ : Addr) else some ⟨g, 2, none⟩) = ap
              go_wp2
              go_ret
              exact ⟨rfl, B7⟩
            case refine_2 =>
              subst h1
              have HNE : Hid (xs ≠ p1 :: p0 :: pl.drop 2) := fun e => by have := HXN.out.2 e; simp at this
              go_wp2_with fail
              refine wp_region_below (by kernel_rfl) (by kernel_rfl) ?_
              repeat (go_big_quiet_step ((go_at_call 16; exact Calls.behDr (sameInts_as _ _ _ (xs.drop 2) _ _ _ (pl.drop 2) _ _ (TX.out.below (Beh.below _)) (TP.out.below (Beh.below _)) HE3.out))))
              refine wpQuiet_nil ?_
              rintro _ ⟨⟨w7, hb7⟩, rfl⟩
              have B7 := B6.out.trans (hb7.mono B6.out.size)
              try generalize (if c6 = 2 then some (⟨gx, 0, none⟩ : Addr) else some ⟨gx, 2, none⟩) = ax
              try generalize (if c2 = 2 then some (⟨g, 0, none⟩ : Addr) else some ⟨g, 2, none⟩) = ap
              have PB7 := PBh.out.trans (hb7.mono PBh.out.size)
              go_wp2
              go_roundw
              case rel =>
                refine ⟨s + 1, by omega, by go_num, fun q hq => ?_, PB7⟩
                rcases Nat.lt_succ_iff_lt_or_eq.1 hq with h | h
                · exact hno.out q h
                · subst h
                  rw [HXS.out, E0.out, E1.out]; exact HNE.out
              case measure => simp [intOf]; omega
            case refine_3 =>
              subst h1; subst h2
              have HNE : Hid (xs ≠ p1 :: p0 :: pl.drop 2) := fun e => by have := HXN.out.2 e; simp at this
              go_wp2_with fail
              refine wp_region_below (by kernel_rfl) (by kernel_rfl) ?_
              repeat (go_big_quiet_step ((go_at_call 16; exact Calls.behDr (sameInts_as _ _ _ (xs.drop 2) _ _ _ (pl.drop 2) _ _ (TX.out.below (Beh.below _)) (TP.out.below (Beh.below _)) HE3.out))))
              refine wpQuiet_nil ?_
              rintro _ ⟨⟨w7, hb7⟩, rfl⟩
              have B7 := B6.out.trans (hb7.mono B6.out.size)
              try generalize (if c6 = 2 then some (⟨gx, 0, none⟩ : Addr) else some ⟨gx, 2, none⟩) = ax
              try generalize (if c2 = 2 then some (⟨g, 0, none⟩ : Addr) else some ⟨g, 2, none⟩) = ap
              have PB7 := PBh.out.trans (hb7.mono PBh.out.size)
              go_wp2
              go_roundw
              case rel =>
                refine ⟨s + 1, by omega, by go_num, fun q hq => ?_, PB7⟩
                rcases Nat.lt_succ_iff_lt_or_eq.1 hq with h | h
                · exact hno.out q h
                · subst h
                  rw [HXS.out, E0.out, E1.out]; exact HNE.out
              case measure => simp [intOf]; omega
            case refine_4 =>
              subst h1; subst h2; subst h3
              have HNE : Hid (xs ≠ p1 :: p0 :: pl.drop 2) := fun e => by have := HXN.out.2 e; simp at this
              go_wp2_with fail
              refine wp_region_below (by kernel_rfl) (by kernel_rfl) ?_
              repeat (go_big_quiet_step ((go_at_call 16; exact Calls.behDr (sameInts_as _ _ _ (xs.drop 2) _ _ _ (pl.drop 2) _ _ (TX.out.below (Beh.below _)) (TP.out.below (Beh.below _)) HE3.out))))
              refine wpQuiet_nil ?_
              rintro _ ⟨⟨w7, hb7⟩, rfl⟩
              have B7 := B6.out.trans (hb7.mono B6.out.size)
              try generalize (if c6 = 2 then some (⟨gx, 0, none⟩ : Addr) else some ⟨gx, 2, none⟩) = ax
              try generalize (if c2 = 2 then some (⟨g, 0, none⟩ : Addr) else some ⟨g, 2, none⟩) = ap
              have PB7 := PBh.out.trans (hb7.mono PBh.out.size)
              go_wp2
              go_roundw
              case rel =>
                refine ⟨s + 1, by omega, by go_num, fun q hq => ?_, PB7⟩
                rcases Nat.lt_succ_iff_lt_or_eq.1 hq with h | h
                · exact hno.out q h
                · subst h
                  rw [HXS.out, E0.out, E1.out]; exact HNE.out
              case measure => simp [intOf]; omega
          · have hds : decide ((s : Int) < 120) = false := decide_eq_false (by omega)
            exfalso
            obtain ⟨q, hq, he'⟩ := HSW.out
            exact hno.out q (by omega) he'
  · have hl' : (1048576 : Int) < (len0 : Int) := by omega
    clear w0
    go_enter Try.func5, Try.ntmps5
    go_wp2
    go_ret
    exact ⟨rfl, Below.refl _ _⟩

end Go.Proofs.Ytapmmbngfklahaa.fnLotsAll
