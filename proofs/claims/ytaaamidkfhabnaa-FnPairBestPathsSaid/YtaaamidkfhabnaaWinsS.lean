/-
  spec.l13Wins, spec.PairWinner and spec.PairCounts: for every list of piles and every number of candidates.
-/
import Derived.Test.YtaaamidkfhabnaaTabC
import Derived.Deep.QuietTactic
import Derived.BigQuiet
namespace Go.Proofs.Ytaaamidkfhabnaa
open Go.RowKit

attribute [local go_sem] Oper.semAt_some

/-- Whether x is preferred to each other one. -/
def winsB (M : Nat → Nat → Int) (n x : Nat) : Bool := (List.range n).all fun y => decide (x = y) || decide (M y x < M x y)
theorem winsB_iff (M : Nat → Nat → Int) (n x : Nat) : winsB M n x = true ↔ Wins M n x := by
  unfold winsB Wins
  rw [List.all_eq_true]
  constructor
  · intro h y hy hne
    have := h y (List.mem_range.2 hy)
    simp only [Bool.or_eq_true, decide_eq_true_eq] at this
    rcases this with e | e
    · exact absurd e.symm hne
    · exact e
  · intro h y hy
    by_cases e : x = y
    · simp [e]
    · have := h y (List.mem_range.1 hy) (fun g => e g.symm)
      simp [this]
theorem winsB_no {M : Nat → Nat → Int} {n x y : Nat} (hy : y < n) (hne : y ≠ x) (h : M x y ≤ M y x) : winsB M n x = false := by
  cases hw : winsB M n x
  · rfl
  · have := (winsB_iff M n x).1 hw y hy hne; omega
theorem fromZero_at {n k : Nat} (h : k < n) : (fromZero n)[k]?.getD 0 = (k : Int) := by simp [fromZero, h]

set_option maxRecDepth 100000 in
set_option maxHeartbeats 2000000 in
/-- **l13Wins**. -/
theorem l13Wins_any (n x base g cap : Nat) (G C : Nat → Nat) (M : Nat → Nat → Int) (ao : Option Addr) (co : Nat) (v : Bool) (w : World) (hT : Tb 3 30 w base (some ⟨g, 0, none⟩) n cap n n G C (fun i j => .int .i64 (M i j))) (hO : IsInts w ao n co (fromZero n)) (hx : x < n) (hn : n ≤ 5) (hv : winsB M n x = v) :
    Calls Try.prog 53 #[.slice (some ⟨g, 0, none⟩) n cap, .int .i64 (x : Int), .slice ao n co] w fun e w' => e = .returned (.bool v) ∧ Dr w w' := by
  have HT := Lib.hid hT
  have HO := Lib.hid hO
  have HV := Lib.hid hv
  clear hT hO hv
  go_enter Try.func53, Try.ntmps53
  go_wp2
  go_loopw [7] (fun i wr => ∃ k : Nat, k ≤ n ∧ i = .int .i64 k ∧ Hid (∀ y, y < k → y ≠ x → M y x < M x y) ∧ Dr w wr) (fun i _ => n - (intOf i).toNat)
  case atStart => exact ⟨0, Nat.zero_le _, rfl, fun j hj => by omega, Dr.refl _⟩
  case round =>
    obtain ⟨k, hk, rfl, hA, hd⟩ := hrel
    by_cases hlt : k < n
    · have hT2 := HT.out.under (hd.below _)
      obtain ⟨-, -, -, ho4⟩ := HO.out.dr hd
      obtain ⟨bo, oo, rfl, hbo, hco⟩ := ho4 (by omega)
      have ck := hco k hlt
      rw [fromZero_at hlt] at ck
      have rx := hT2.row_cell hx (Nat.le_refl _)
      have rk := hT2.row_cell hlt (Nat.le_refl _)
      have cxk := hT2.cell hx hlt
      have ckx := hT2.cell hlt hx
      obtain ⟨gx, hgx⟩ : ∃ gx, G x = gx := ⟨_, rfl⟩
      obtain ⟨cx, hcx⟩ : ∃ cx, C x = cx := ⟨_, rfl⟩
      rw [hgx] at rx cxk
      rw [hcx] at rx
      clear hT2 ho4 hco hgx hcx
      have hki : (k : Int) < (n : Int) := by omega
      have hxi : (x : Int) < (n : Int) := by omega
      by_cases he : k = x
      · subst he
        have hne : ((k : Int) != (k : Int)) = false := by simp
        clear rx cxk ckx rk
        go_wp2_with fail
        go_quiet (fail)
        go_wp2
        go_roundw
        case rel =>
          refine ⟨k + 1, by omega, by go_num, fun y hy hne => hA.out y (by omega) hne, hd.drewN _⟩
        case measure => simp [intOf]; omega
      · have hne : ((k : Int) != (x : Int)) = true := bne_iff_ne.2 (by omega)
        obtain ⟨gk, hgk⟩ : ∃ gk, G k = gk := ⟨_, rfl⟩
        obtain ⟨ck', hck⟩ : ∃ ck', C k = ck' := ⟨_, rfl⟩
        rw [hgk] at rk ckx
        rw [hck] at rk
        obtain ⟨p, hp⟩ : ∃ p, M x k = p := ⟨_, rfl⟩
        obtain ⟨q, hq⟩ : ∃ q, M k x = q := ⟨_, rfl⟩
        simp only [hp] at cxk
        simp only [hq] at ckx
        have HPQ := Lib.hid (And.intro hp hq)
        clear hgk hck hp hq
        by_cases hle : p ≤ q
        · have hd1 : decide (p ≤ q) = true := decide_eq_true hle
          go_wp2_with fail
          go_quiet (fail)
          go_wp2
          go_ret
          exact ⟨ret_bool (by rw [← HV.out]; exact (winsB_no hlt he (by rw [HPQ.out.1, HPQ.out.2]; exact hle)).symm), hd.drewN _⟩
        · have hd1 : decide (p ≤ q) = false := decide_eq_false hle
          go_wp2_with fail
          go_quiet (fail)
          go_wp2
          go_roundw
          case rel =>
            refine ⟨k + 1, by omega, by go_num, fun y hy hne => ?_, hd.drewN _⟩
            by_cases e : y = k
            · subst e; rw [HPQ.out.1, HPQ.out.2]; omega
            · exact hA.out y (by omega) hne
          case measure => simp [intOf]; omega
    · obtain rfl : k = n := by omega
      have HW : Hid (winsB M k x = true) := (winsB_iff M k x).2 (fun y hy hne => hA.out y hy hne)
      go_wp2
      go_ret
      exact ⟨ret_bool (by rw [← HV.out, HW.out]), hd⟩

/-- The winner of pairs, or -1. -/
def pairW (M : Nat → Nat → Int) (n : Nat) : Int := match (List.range n).find? (winsB M n) with | some x => (x : Int) | none => -1
theorem pairW_yes {M : Nat → Nat → Int} {n x : Nat} (hx : x < n) (h : winsB M n x = true) : pairW M n = (x : Int) := by
  unfold pairW
  cases hf : (List.range n).find? (winsB M n) with
  | none =>
    rw [List.find?_eq_none] at hf
    exact absurd h (hf x (List.mem_range.2 hx))
  | some y =>
    have h1 := List.find?_some hf
    have h2 := List.mem_range.1 (List.mem_of_find?_eq_some hf)
    rw [wins_one h2 hx ((winsB_iff M n y).1 h1) ((winsB_iff M n x).1 h)]
theorem pairW_no {M : Nat → Nat → Int} {n : Nat} (h : ∀ x, x < n → winsB M n x = false) : pairW M n = -1 := by
  unfold pairW
  have hf : (List.range n).find? (winsB M n) = none := by
    rw [List.find?_eq_none]
    intro x hx
    rw [h x (List.mem_range.1 hx)]; simp
  rw [hf]
theorem pairW_cases (M : Nat → Nat → Int) (n : Nat) : (pairW M n = -1 ∧ ∀ x, x < n → ¬ Wins M n x) ∨ ∃ x, x < n ∧ Wins M n x ∧ pairW M n = (x : Int) := by
  rcases Classical.em (∃ x, x < n ∧ winsB M n x = true) with ⟨x, hx, h⟩ | h
  · exact .inr ⟨x, hx, (winsB_iff M n x).1 h, pairW_yes hx h⟩
  · have h' : ∀ x, x < n → winsB M n x = false := fun x hx => by
      cases e : winsB M n x
      · rfl
      · exact absurd ⟨x, hx, e⟩ h
    exact .inl ⟨pairW_no h', fun x hx hw => by have := (winsB_iff M n x).2 hw; rw [h' x hx] at this; cases this⟩
/-- What PairWinner answers. -/
def winnerF (ps : List Pl) (n : Int) : Int := if fitsB ps n = true then pairW (pairF ps) n.toNat else -1

set_option maxRecDepth 100000 in
set_option maxHeartbeats 4000000 in
/-- **spec.PairWinner**. -/
theorem specPairWinner_as (a : Option Addr) (len cap : Nat) (ps : List Pl) (n : Int) (r : Int) (w : World) (h : IsPiles w a len cap ps) (hs : Small ps) (hr : winnerF ps n = r) :
    Calls Try.prog 22 #[.slice a len cap, .int .i64 n] w fun e w' => e = .returned (.int .i64 r) ∧ Below w.heap.size w w' := by
  have HI := Lib.hid h
  have HS := Lib.hid hs
  have HR := Lib.hid hr
  clear h hs hr
  obtain ⟨G0, hG⟩ : ∃ G, w.heap.size = G := ⟨_, rfl⟩
  go_enter Try.func22, Try.ntmps22
  cases hv : fitsB ps n
  · have e : Hid (r = -1) := by rw [Hid, ← HR.out, winnerF, hv]; rfl
    have HV := Lib.hid hv; clear hv
    go_wp2_with fail
    refine (specFits_as _ len cap ps n false _ HI.out HS.out HV.out).mono ?_
    rintro e1 w1 ⟨rfl, hb1⟩
    go_wp2
    go_ret
    exact ⟨ret_int e.out.symm, hb1⟩
  · obtain ⟨hp, hn1, hn5, -⟩ := fits_parts hv
    obtain ⟨N, rfl⟩ : ∃ N : Nat, n = (N : Int) := ⟨n.toNat, by omega⟩
    have e : Hid (r = pairW (pairF ps) N) := by rw [Hid, ← HR.out, winnerF, hv]; rfl
    have HV := Lib.hid hv
    have HP := Lib.hid hp
    clear hv hp
    have hN1 : 1 ≤ N := by omega
    have hN5 : N ≤ 5 := by omega
    go_wp2_with fail
    refine (specFits_as _ len cap ps (N : Int) true _ HI.out HS.out HV.out).mono ?_
    rintro e1 w1 ⟨rfl, hb1⟩
    have I1 := Lib.hid (HI.out.below hb1)
    have B1 := Lib.hid (hG ▸ hb1)
    clear hb1
    go_wp2_with fail
    refine (l13Counts_any _ len cap ps N _ I1.out HS.out HP.out hN1 hN5).mono ?_
    rintro e1 w2 ⟨am, cm, G, C, rfl, hT, hb2⟩
    obtain ⟨gm, rfl, hgm, hgl, -⟩ := hT.head (by omega)
    have T2 := Lib.hid hT
    have B2 := Lib.hid (B1.out.trans (hb2.mono (by have := B1.out.size; rw [hG] at this; exact this)))
    clear hT hb2 hgm
    go_wp2
    go_loopw [6] (fun xv wr => ∃ x : Nat, x ≤ N ∧ xv = .int .i64 (x : Int) ∧ Hid (∀ y, y < x → winsB (pairF ps) N y = false) ∧ Below w2.heap.size w2 wr) (fun xv _ => N - (intOf xv).toNat)
    case atStart => exact ⟨0, Nat.zero_le _, rfl, fun j hj => by omega, Below.refl _ _⟩
    case round =>
      obtain ⟨x, hx, rfl, hA, hB⟩ := hrel
      by_cases hlt : x < N
      · go_wp2_with fail
        refine (l13Range_any N _ (by omega)).mono ?_
        rintro e1 w4 ⟨ao, co, rfl, ho, hb4⟩
        have HO4 := Lib.hid (IsInts.of_owned ho (by omega))
        have hB4 : Below w2.heap.size w2 w4 := hB.trans (hb4.mono hB.size)
        have T4 := Lib.hid (T2.out.under hB4)
        clear ho hb4
        obtain ⟨v, hv⟩ : ∃ v, winsB (pairF ps) N x = v := ⟨_, rfl⟩
        have HV4 := Lib.hid hv
        clear hv
        go_wp2_with fail
        refine (l13Wins_any N x _ gm cm G C (pairF ps) ao co v _ T4.out HO4.out hlt hN5 HV4.out).mono ?_
        rintro e1 w5 ⟨rfl, hd⟩
        have hB5 : Below w2.heap.size w2 w5 := hB4.trans (hd.below _)
        clear hd
        cases v
        · go_wp2
          go_roundw
          case rel =>
            refine ⟨x + 1, by omega, by go_num, fun y hy => ?_, hB5⟩
            by_cases e : y = x
            · subst e; exact HV4.out
            · exact hA.out y (by omega)
          case measure => simp [intOf]; omega
        · go_wp2
          go_ret
          exact ⟨ret_int (by rw [e.out]; exact (pairW_yes hlt HV4.out).symm), hG.symm ▸ B2.out.trans (hB5.mono (by have := B2.out.size; rw [hG] at this; exact this))⟩
      · obtain rfl : x = N := by omega
        go_wp2
        go_ret
        exact ⟨ret_int (by rw [e.out]; exact (pairW_no hA.out).symm), hG.symm ▸ B2.out.trans (hB.mono (by have := B2.out.size; rw [hG] at this; exact this))⟩

/-- What PairCounts returns: a table, or nothing. -/
def GaveT (w : World) (B : Nat) (ok : Bool) (n : Nat) (M : Nat → Nat → Int) (e : Ending) (w' : World) : Prop :=
  ∃ a cap G C, e = .returned (.tuple #[.slice a (if ok = true then n else 0) cap, .bool ok]) ∧ (ok = true → Tb 3 30 w' B a n cap n n G C (fun x y => .int .i64 (M x y))) ∧ Below w.heap.size w w'

set_option maxRecDepth 100000 in
set_option maxHeartbeats 2000000 in
/-- **spec.PairCounts**. -/
theorem specPairCounts_as (a : Option Addr) (len cap : Nat) (ps : List Pl) (n : Int) (v : Bool) (w : World) (h : IsPiles w a len cap ps) (hs : Small ps) (hv : fitsB ps n = v) :
    Calls Try.prog 17 #[.slice a len cap, .int .i64 n] w (GaveT w w.heap.size v n.toNat (pairF ps)) := by
  have HI := Lib.hid h
  have HS := Lib.hid hs
  clear h hs
  obtain ⟨G0, hG⟩ : ∃ G, w.heap.size = G := ⟨_, rfl⟩
  cases v
  · have HV := Lib.hid hv; clear hv
    go_enter Try.func17, Try.ntmps17
    go_wp2_with fail
    refine (specFits_as _ len cap ps n false _ HI.out HS.out HV.out).mono ?_
    rintro e1 w1 ⟨rfl, hb1⟩
    go_wp2
    go_ret2
    exact ⟨_, _, fun _ => 0, fun _ => 0, rfl, (by intro h; cases h), hb1.alloc hb1.size _⟩
  · obtain ⟨hp, hn1, hn5, -⟩ := fits_parts hv
    obtain ⟨N, rfl⟩ : ∃ N : Nat, n = (N : Int) := ⟨n.toNat, by omega⟩
    have HV := Lib.hid hv
    have HP := Lib.hid hp
    clear hv hp
    have hN1 : 1 ≤ N := by omega
    have hN5 : N ≤ 5 := by omega
    go_enter Try.func17, Try.ntmps17
    go_wp2_with fail
    refine (specFits_as _ len cap ps (N : Int) true _ HI.out HS.out HV.out).mono ?_
    rintro e1 w1 ⟨rfl, hb1⟩
    have I1 := Lib.hid (HI.out.below hb1)
    have B1 := Lib.hid hb1
    clear hb1
    go_wp2_with fail
    refine (l13Counts_any _ len cap ps N _ I1.out HS.out HP.out hN1 hN5).mono ?_
    rintro e1 w2 ⟨am, cm, G, C, rfl, hT, hb2⟩
    have T2 := Lib.hid hT
    have B2 := Lib.hid (B1.out.trans (hb2.mono B1.out.size))
    clear hT hb2
    go_wp2
    go_ret2
    exact ⟨am, cm, G, C, by simp, fun _ => by rw [Int.toNat_natCast]; exact T2.out.mono B1.out.size, B2.out⟩

end Go.Proofs.Ytaaamidkfhabnaa
