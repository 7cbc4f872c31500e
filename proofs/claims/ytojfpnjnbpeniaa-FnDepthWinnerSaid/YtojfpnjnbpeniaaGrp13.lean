/-
  DepthWinner and PlaceWinner, of spec and of impl: for every list of piles (at most 1048600, with texts of at most 1048600 bytes) and every lots (at most 1048600).
  How long the lists of counts are.
  Marks that are those of a form: l2Marks and impl.marksValid answer alike for every list of at most 1048600 ints, and write nothing.
  The marks on which more than half of all readers agree, as a list. Of no memory.
  What a slice of slices of ints holds; l2Count and spec.MarksAgree. No condition but what each theorem says.
-/
import Derived.Test.YtojfpnjnbpeniaaGrp9
import Derived.Test.YtojfpnjnbpeniaaGrp11
import Derived.Test.YtojfpnjnbpeniaaGrp12
import Derived.Test.YtojfpnjnbpeniaaGrp8
import Derived.Test.YtojfpnjnbpeniaaGrp1
import Derived.Test.YtojfpnjnbpeniaaGrp5
namespace Go.Proofs.Ytojfpnjnbpeniaa
open Go.RowKit

attribute [local go_sem] Oper.semAt_some

def conB (ps : List Pl) (lots : List Int) : Bool := lotsB lots && fitsB ps (lots.length : Int)
/-- What DepthWinner and PlaceWinner tell. -/
def depWin (ps : List Pl) (lots : List Int) : Int × Int := if conB ps lots = true then (depW ps lots, (depAt ps lots.length : Int)) else (-1, -1)
def plaWin (ps : List Pl) (lots : List Int) : Int := if conB ps lots = true then plaW ps lots else -1
theorem depAt_eq {ps : List Pl} {n d : Nat} (h1 : 1 ≤ d) (h2 : d ≤ n) (h3 : ∀ j, 1 ≤ j → j < d → overL (depL ps n j) (sumL ps) = false) (h4 : d < n → overL (depL ps n d) (sumL ps) = true) : depAt ps n = d := by
  obtain ⟨k1, k2, k3, k4⟩ := depFrom_spec (ps := ps) (n := n) n 1 (by omega) (by omega)
  have e : depAt ps n = depFrom ps n n 1 := rfl
  rw [← e] at k1 k2 k3 k4
  rcases Nat.lt_trichotomy (depAt ps n) d with g | g | g
  · have := k3 (by omega); rw [h3 _ k1 g] at this; cases this
  · exact g
  · have := k4 d h1 g; rw [h4 (by omega)] at this; cases this
theorem depL_bound {ps : List Pl} {N : Nat} (hv : fitsB ps (N : Int) = true) (d x : Nat) : 0 ≤ (depL ps N d)[x]?.getD 0 ∧ (depL ps N d)[x]?.getD 0 ≤ 10000 := by
  rw [dep_pts]
  have := ptL_bound (P := depP d) (depP_bound d N) hv ps.length x
  rw [List.take_length] at this
  omega
theorem plaL_bound {ps : List Pl} {N : Nat} (hv : fitsB ps (N : Int) = true) (x : Nat) : 0 ≤ (plaL ps N)[x]?.getD 0 := by
  obtain ⟨-, -, hn5, -⟩ := fits_parts hv
  rw [pla_pts]
  have := ptL_bound (P := plaP N) (plaP_bound (by omega)) hv ps.length x
  rw [List.take_length] at this
  exact this.1

set_option maxRecDepth 100000 in
set_option maxHeartbeats 4000000 in
/-- **spec.DepthWinner**. -/
theorem specDepthW_as (a : Option Addr) (len cap : Nat) (ps : List Pl) (a' : Option Addr) (n cap' : Nat) (lots : List Int) (r d : Int) (w : World) (h : IsPiles w a len cap ps) (hs : Small ps) (h' : IsInts w a' n cap' lots) (hr : depWin ps lots = (r, d)) :
    Calls Try.prog 24 #[.slice a len cap, .slice a' n cap'] w fun e w' => e = .returned (.tuple #[.int .i64 r, .int .i64 d]) ∧ Below w.heap.size w w' := by
  have HI := Lib.hid h
  have HS := Lib.hid hs
  have HJ := Lib.hid h'
  have HLn := Lib.hid h'.1
  clear h hs h'
  cases hl : lotsB lots
  · have e : conB ps lots = false := by rw [conB, hl]; rfl
    rw [depWin, e] at hr
    obtain ⟨rfl, rfl⟩ := Prod.ext_iff.1 hr
    have HL := Lib.hid hl
    clear hr e hl
    go_enter Try.func24, Try.ntmps24
    go_wp2_with fail
    refine (specLots_any _ _ _ lots _ HJ.out).mono ?_
    rw [HL.out]
    rintro e w1 ⟨rfl, hd⟩
    have hb := hd.below w.heap.size
    go_wp2
    go_ret2
    exact ⟨rfl, hb⟩
  · have HL := Lib.hid hl
    cases hf : fitsB ps (lots.length : Int)
    · have e : conB ps lots = false := by rw [conB, hf, Bool.and_false]
      rw [depWin, e] at hr
      obtain ⟨rfl, rfl⟩ := Prod.ext_iff.1 hr
      rw [HLn.out] at hf
      have HF := Lib.hid hf
      clear hr e hl hf
      go_enter Try.func24, Try.ntmps24
      go_wp2_with fail
      refine (specLots_any _ _ _ lots _ HJ.out).mono ?_
      rw [HL.out]
      rintro e w1 ⟨rfl, hd⟩
      have hb := hd.below w.heap.size
      clear hd
      go_wp2_with fail
      refine (specFits_as _ _ _ ps (n : Int) false _ (HI.out.below hb) HS.out HF.out).mono ?_
      rintro e w2 ⟨rfl, hb2⟩
      have hb3 := hb.trans (hb2.mono hb.size)
      clear hb hb2
      go_wp2
      go_ret2
      exact ⟨rfl, hb3⟩
    · have e : conB ps lots = true := by rw [conB, hl, hf]; rfl
      rw [depWin, e, if_pos rfl, HLn.out] at hr
      have HR := Lib.hid hr
      rw [HLn.out] at hf
      have HF := Lib.hid hf
      have hn := lotsB_len hl
      rw [HLn.out] at hn
      have HP := Lib.hid (fits_parts hf).1
      have HZ : Hid (∀ z ∈ lots, 0 ≤ z ∧ z < (n : Int)) := by intro z hz; have := lotsB_mem hl z hz; rw [HLn.out] at this; exact this
      clear hr e hl hf
      go_enter Try.func24, Try.ntmps24
      go_wp2_with fail
      refine (specLots_any _ _ _ lots _ HJ.out).mono ?_
      rw [HL.out]
      rintro e w1 ⟨rfl, hd⟩
      have hb := hd.below w.heap.size
      clear hd
      go_wp2_with fail
      refine (specFits_as _ _ _ ps (n : Int) true _ (HI.out.below hb) HS.out HF.out).mono ?_
      rintro e w2 ⟨rfl, hb2⟩
      have hb3 := Lib.hid (hb.trans (hb2.mono hb.size))
      clear hb hb2
      go_wp2
      go_loopw [7] (fun dv wr => ∃ k : Nat, 1 ≤ k ∧ k ≤ n ∧ dv = .int .i64 (k : Int) ∧ Hid (∀ j, 1 ≤ j → j < k → overL (depL ps n j) (sumL ps) = false) ∧ Below w.heap.size w wr) (fun dv _ => n - (intOf dv).toNat)
      case atStart => exact ⟨1, Nat.le_refl _, hn.1, rfl, fun j h1 h2 => by omega, hb3.out⟩
      case round =>
        clear hb3
        obtain ⟨k, hk1, hkn, rfl, hA, hB⟩ := hrel
        have FIN : Hid ((k < n → overL (depL ps n k) (sumL ps) = true) → Hid (pickL lots (mostL (depL ps n k) (allL n)) = r ∧ (k : Int) = d)) := fun h4 => by
          have h5 := depAt_eq hk1 hkn hA.out h4
          have h6 := HR.out
          rw [Prod.ext_iff, h5, depW, HLn.out, h5] at h6
          exact h6
        by_cases hlt : k < n
        · have hlti : (k : Int) < (n : Int) := by omega
          obtain ⟨v, hv⟩ : ∃ v, overL (depL ps n k) (sumL ps) = v := ⟨_, rfl⟩
          have HV := Lib.hid hv
          clear hv
          go_wp2_with fail
          refine (specDepth0_as _ _ _ ps n k _ (HI.out.below hB) HS.out HF.out).mono ?_
          rintro e w3 ⟨g3, rfl, ho3, hb3⟩
          rw [← dep_pts] at ho3
          have hB3 := hB.trans (hb3.mono hB.size)
          have I3 := Lib.hid (IsInts.of_owned ho3 (by omega))
          clear ho3 hb3 hB
          go_wp2_with fail
          refine (l3Total_any _ _ _ ps _ (HI.out.below hB3) (fun i => by have := mAt_valid HP.out i; omega)).mono ?_
          rintro e w4 ⟨rfl, rfl⟩
          go_wp2_with fail
          refine (over14_as _ _ _ (depL ps n k) (sumL ps) v _ I3.out (fun x => depL_bound HF.out k x) HV.out).mono ?_
          rintro e w5 ⟨rfl, rfl⟩
          cases v
          · have HA2 : Hid (∀ j, 1 ≤ j → j < k + 1 → overL (depL ps n j) (sumL ps) = false) := fun j h1 h2 => by
              by_cases e : j = k
              · subst e; exact HV.out
              · exact hA.out j h1 (by omega)
            clear I3 hA
            go_wp2
            go_roundw
            case rel => exact ⟨k + 1, by omega, by omega, by go_num, HA2, hB3⟩
            case measure => simp [intOf]; omega
          · have HD := FIN.out (fun _ => HV.out)
            have hBx := hB3
            clear I3 hA FIN hB3
            go_wp2_with fail
            refine (specDepth0_as _ _ _ ps n k _ (HI.out.below hBx) HS.out HF.out).mono ?_
            rintro e w6 ⟨g6, rfl, ho6, hb6⟩
            rw [← dep_pts] at ho6
            have hB6 := hBx.trans (hb6.mono hBx.size)
            have I6 := Lib.hid (IsInts.of_owned ho6 (by omega))
            clear ho6 hb6 hBx
            go_wp2_with fail
            refine (all11_as n _ (by omega)).mono ?_
            rintro e w7 ⟨a7, c7, rfl, ho7, hb7⟩
            have hB7 := hB6.trans (hb7.mono hB6.size)
            have I7 := Lib.hid (I6.out.below hb7)
            have J7 := Lib.hid (boolsRow_is ho7 (by simp [allL]) (by omega))
            clear ho7 hb7 hB6 I6
            go_wp2_with fail
            refine (most11_as _ _ _ (depL ps n k) _ _ (allL n) _ I7.out J7.out _ rfl).mono ?_
            rintro e w8 ⟨a8, c8, rfl, ho8, hb8⟩
            have hB8 := hB7.trans (hb8.mono hB7.size)
            have J8 := Lib.hid (boolsRow_is ho8 (by rw [mostL_length, depL_length]) (by omega))
            clear ho8 hb8 hB7 I7 J7
            go_wp2_with fail
            refine (l4First_any _ _ _ lots _ _ _ (mostL (depL ps n k) (allL n)) _ (HJ.out.below hB8) J8.out HZ.out).mono ?_
            rintro e w9 ⟨rfl, rfl⟩
            go_wp2
            go_ret2
            exact ⟨by rw [HD.out.1, HD.out.2]; rfl, hB8⟩
        · have HD := FIN.out (fun g => absurd g hlt)
          have hBx := hB
          have hlti : ¬ (k : Int) < (n : Int) := by omega
          clear hA FIN hB
          go_wp2_with fail
          refine (specDepth0_as _ _ _ ps n k _ (HI.out.below hBx) HS.out HF.out).mono ?_
          rintro e w6 ⟨g6, rfl, ho6, hb6⟩
          rw [← dep_pts] at ho6
          have hB6 := hBx.trans (hb6.mono hBx.size)
          have I6 := Lib.hid (IsInts.of_owned ho6 (by omega))
          clear ho6 hb6 hBx
          go_wp2_with fail
          refine (all11_as n _ (by omega)).mono ?_
          rintro e w7 ⟨a7, c7, rfl, ho7, hb7⟩
          have hB7 := hB6.trans (hb7.mono hB6.size)
          have I7 := Lib.hid (I6.out.below hb7)
          have J7 := Lib.hid (boolsRow_is ho7 (by simp [allL]) (by omega))
          clear ho7 hb7 hB6 I6
          go_wp2_with fail
          refine (most11_as _ _ _ (depL ps n k) _ _ (allL n) _ I7.out J7.out _ rfl).mono ?_
          rintro e w8 ⟨a8, c8, rfl, ho8, hb8⟩
          have hB8 := hB7.trans (hb8.mono hB7.size)
          have J8 := Lib.hid (boolsRow_is ho8 (by rw [mostL_length, depL_length]) (by omega))
          clear ho8 hb8 hB7 I7 J7
          go_wp2_with fail
          refine (l4First_any _ _ _ lots _ _ _ (mostL (depL ps n k) (allL n)) _ (HJ.out.below hB8) J8.out HZ.out).mono ?_
          rintro e w9 ⟨rfl, rfl⟩
          go_wp2
          go_ret2
          exact ⟨by rw [HD.out.1, HD.out.2]; rfl, hB8⟩

set_option maxRecDepth 100000 in
set_option maxHeartbeats 4000000 in
/-- **spec.PlaceWinner**. -/
theorem specPlaceW_as (a : Option Addr) (len cap : Nat) (ps : List Pl) (a' : Option Addr) (n cap' : Nat) (lots : List Int) (r : Int) (w : World) (h : IsPiles w a len cap ps) (hs : Small ps) (h' : IsInts w a' n cap' lots) (hr : plaWin ps lots = r) :
    Calls Try.prog 33 #[.slice a len cap, .slice a' n cap'] w fun e w' => e = .returned (.int .i64 r) ∧ Below w.heap.size w w' := by
  have HI := Lib.hid h
  have HS := Lib.hid hs
  have HJ := Lib.hid h'
  have HLn := Lib.hid h'.1
  clear h hs h'
  cases hl : lotsB lots
  · have e : conB ps lots = false := by rw [conB, hl]; rfl
    rw [plaWin, e] at hr
    subst hr
    have HL := Lib.hid hl
    clear e hl
    go_enter Try.func33, Try.ntmps33
    go_wp2_with fail
    refine (specLots_any _ _ _ lots _ HJ.out).mono ?_
    rw [HL.out]
    rintro e w1 ⟨rfl, hd⟩
    have hb := hd.below w.heap.size
    go_wp2
    go_ret
    exact ⟨rfl, hb⟩
  · have HL := Lib.hid hl
    cases hf : fitsB ps (lots.length : Int)
    · have e : conB ps lots = false := by rw [conB, hf, Bool.and_false]
      rw [plaWin, e] at hr
      subst hr
      rw [HLn.out] at hf
      have HF := Lib.hid hf
      clear e hl hf
      go_enter Try.func33, Try.ntmps33
      go_wp2_with fail
      refine (specLots_any _ _ _ lots _ HJ.out).mono ?_
      rw [HL.out]
      rintro e w1 ⟨rfl, hd⟩
      have hb := hd.below w.heap.size
      clear hd
      go_wp2_with fail
      refine (specFits_as _ _ _ ps (n : Int) false _ (HI.out.below hb) HS.out HF.out).mono ?_
      rintro e w2 ⟨rfl, hb2⟩
      have hb3 := hb.trans (hb2.mono hb.size)
      clear hb hb2
      go_wp2
      go_ret
      exact ⟨rfl, hb3⟩
    · have e : conB ps lots = true := by rw [conB, hl, hf]; rfl
      rw [plaWin, e, if_pos rfl, plaW, HLn.out] at hr
      have HR := Lib.hid hr
      rw [HLn.out] at hf
      have HF := Lib.hid hf
      have hn := lotsB_len hl
      rw [HLn.out] at hn
      have HZ : Hid (∀ z ∈ lots, 0 ≤ z ∧ z < (n : Int)) := by intro z hz; have := lotsB_mem hl z hz; rw [HLn.out] at this; exact this
      clear hr e hl hf
      go_enter Try.func33, Try.ntmps33
      go_wp2_with fail
      refine (specLots_any _ _ _ lots _ HJ.out).mono ?_
      rw [HL.out]
      rintro e w1 ⟨rfl, hd⟩
      have hb := hd.below w.heap.size
      clear hd
      go_wp2_with fail
      refine (specFits_as _ _ _ ps (n : Int) true _ (HI.out.below hb) HS.out HF.out).mono ?_
      rintro e w2 ⟨rfl, hb2⟩
      have hBx := hb.trans (hb2.mono hb.size)
      clear hb hb2
      go_wp2_with fail
      refine (specPlace0_as _ _ _ ps n _ (HI.out.below hBx) HS.out HF.out).mono ?_
      rintro e w6 ⟨g6, rfl, ho6, hb6⟩
      rw [← pla_pts] at ho6
      have hB6 := hBx.trans (hb6.mono hBx.size)
      have I6 := Lib.hid (IsInts.of_owned ho6 (by omega))
      clear ho6 hb6 hBx
      go_wp2_with fail
      refine (all11_as n _ (by omega)).mono ?_
      rintro e w7 ⟨a7, c7, rfl, ho7, hb7⟩
      have hB7 := hB6.trans (hb7.mono hB6.size)
      have I7 := Lib.hid (I6.out.below hb7)
      have J7 := Lib.hid (boolsRow_is ho7 (by simp [allL]) (by omega))
      clear ho7 hb7 hB6 I6
      go_wp2_with fail
      refine (most11_as _ _ _ (plaL ps n) _ _ (allL n) _ I7.out J7.out _ rfl).mono ?_
      rintro e w8 ⟨a8, c8, rfl, ho8, hb8⟩
      have hB8 := hB7.trans (hb8.mono hB7.size)
      have J8 := Lib.hid (boolsRow_is ho8 (by rw [mostL_length, plaL_length]) (by omega))
      clear ho8 hb8 hB7 I7 J7
      go_wp2_with fail
      refine (l4First_any _ _ _ lots _ _ _ (mostL (plaL ps n) (allL n)) _ (HJ.out.below hB8) J8.out HZ.out).mono ?_
      rintro e w9 ⟨rfl, rfl⟩
      go_wp2
      go_ret
      exact ⟨by rw [HR.out]; rfl, hB8⟩

set_option maxRecDepth 100000 in
set_option maxHeartbeats 2000000 in
/-- **impl.PlaceWinner**. -/
theorem implPlaceW_as (a : Option Addr) (len cap : Nat) (ps : List Pl) (a' : Option Addr) (n cap' : Nat) (lots : List Int) (r : Int) (w : World) (h : IsPiles w a len cap ps) (hs : Small ps) (h' : IsInts w a' n cap' lots) (hr : plaWin ps lots = r) :
    Calls Try.prog 32 #[.slice a len cap, .slice a' n cap'] w fun e w' => e = .returned (.int .i64 r) ∧ Below w.heap.size w w' := by
  have HI := Lib.hid h
  have HS := Lib.hid hs
  have HJ := Lib.hid h'
  have HLn := Lib.hid h'.1
  clear h hs h'
  cases hl : lotsB lots
  · have e : conB ps lots = false := by rw [conB, hl]; rfl
    rw [plaWin, e] at hr
    subst hr
    have HL := Lib.hid hl
    clear e hl
    go_enter Try.func32, Try.ntmps32
    go_wp2_with fail
    refine (implLots_any _ _ _ lots _ HJ.out).mono ?_
    rw [HL.out]
    rintro e w1 ⟨rfl, hb⟩
    go_wp2
    go_ret
    exact ⟨rfl, hb⟩
  · have HL := Lib.hid hl
    cases hf : fitsB ps (lots.length : Int)
    · have e : conB ps lots = false := by rw [conB, hf, Bool.and_false]
      rw [plaWin, e] at hr
      subst hr
      rw [HLn.out] at hf
      have HF := Lib.hid hf
      have HRR : Hid (plaR ps (n : Int) = []) := by rw [Hid, plaR, if_neg (by rw [hf]; decide)]
      clear e hl hf
      go_enter Try.func32, Try.ntmps32
      go_wp2_with fail
      refine (implLots_any _ _ _ lots _ HJ.out).mono ?_
      rw [HL.out]
      rintro e w1 ⟨rfl, hb⟩
      go_wp2_with fail
      refine (implPlace_as _ _ _ ps (n : Int) false [] _ (HI.out.below hb) HS.out HF.out HRR.out).mono ?_
      rintro e w2 ⟨a2, c2, rfl, -, hb2⟩
      have hb3 := hb.trans (hb2.mono hb.size)
      clear hb hb2
      go_wp2
      go_ret
      exact ⟨rfl, hb3⟩
    · have e : conB ps lots = true := by rw [conB, hl, hf]; rfl
      rw [plaWin, e, if_pos rfl, plaW, HLn.out] at hr
      have HR := Lib.hid hr
      rw [HLn.out] at hf
      have HF := Lib.hid hf
      have HRR : Hid (plaR ps (n : Int) = plaL ps n) := by rw [Hid, plaR, if_pos hf, Int.toNat_natCast]
      have hn := lotsB_len hl
      rw [HLn.out] at hn
      clear hr e hl hf
      go_enter Try.func32, Try.ntmps32
      go_wp2_with fail
      refine (implLots_any _ _ _ lots _ HJ.out).mono ?_
      rw [HL.out]
      rintro e w1 ⟨rfl, hb⟩
      go_wp2_with fail
      refine (implPlace_as _ _ _ ps (n : Int) true _ _ (HI.out.below hb) HS.out HF.out HRR.out).mono ?_
      simp only [Told, plaL_length]
      rintro e w2 ⟨a2, c2, rfl, ho2, hb2⟩
      have hb3 := hb.trans (hb2.mono hb.size)
      have I2 := Lib.hid (IsInts.of_owned ho2 (by omega))
      clear hb hb2 ho2
      go_wp2_with fail
      refine (great_as _ n _ (plaL ps n) _ _ lots _ I2.out (HJ.out.below hb3) HL.out (fun i _ => plaL_bound HF.out i) r HR.out).mono ?_
      rintro e w4 ⟨rfl, hb4⟩
      have hb5 := hb3.trans (hb4.mono hb3.size)
      clear hb3 hb4
      go_wp2
      go_ret
      exact ⟨rfl, hb5⟩

set_option maxRecDepth 100000 in
set_option maxHeartbeats 4000000 in
/-- **impl.DepthWinner**. -/
theorem implDepthW_as (a : Option Addr) (len cap : Nat) (ps : List Pl) (a' : Option Addr) (n cap' : Nat) (lots : List Int) (r d : Int) (w : World) (h : IsPiles w a len cap ps) (hs : Small ps) (h' : IsInts w a' n cap' lots) (hr : depWin ps lots = (r, d)) :
    Calls Try.prog 23 #[.slice a len cap, .slice a' n cap'] w fun e w' => e = .returned (.tuple #[.int .i64 r, .int .i64 d]) ∧ Below w.heap.size w w' := by
  have HI := Lib.hid h
  have HS := Lib.hid hs
  have HJ := Lib.hid h'
  have HLn := Lib.hid h'.1
  clear h hs h'
  cases hl : lotsB lots
  · have e : conB ps lots = false := by rw [conB, hl]; rfl
    rw [depWin, e] at hr
    obtain ⟨rfl, rfl⟩ := Prod.ext_iff.1 hr
    have HL := Lib.hid hl
    clear hr e hl
    go_enter Try.func23, Try.ntmps23
    go_wp2_with fail
    refine (implLots_any _ _ _ lots _ HJ.out).mono ?_
    rw [HL.out]
    rintro e w1 ⟨rfl, hb⟩
    go_wp2
    go_ret2
    exact ⟨rfl, hb⟩
  · have HL := Lib.hid hl
    have hn := lotsB_len hl
    rw [HLn.out] at hn
    obtain ⟨T, hT⟩ : ∃ T, totalL ps = T := ⟨_, rfl⟩
    have HT := Lib.hid hT
    clear hT
    cases hf : fitsB ps (lots.length : Int)
    · have e : conB ps lots = false := by rw [conB, hf, Bool.and_false]
      rw [depWin, e] at hr
      obtain ⟨rfl, rfl⟩ := Prod.ext_iff.1 hr
      rw [HLn.out] at hf
      have HF : Hid (depOk ps (n : Int) 1 = false) := by rw [Hid, depOk, hf]; rfl
      have HRR := Lib.hid (depR_no HF.out)
      clear hr e hl hf
      go_enter Try.func23, Try.ntmps23
      go_wp2_with fail
      refine (implLots_any _ _ _ lots _ HJ.out).mono ?_
      rw [HL.out]
      rintro e w1 ⟨rfl, hb⟩
      go_wp2_with fail
      refine (implTotal_as _ _ _ ps T _ (HI.out.below hb) HS.out HT.out).mono ?_
      rintro e w2 ⟨rfl, hb2⟩
      have hb3 := Lib.hid (hb.trans (hb2.mono hb.size))
      clear hb hb2
      go_wp2
      go_loopw [8, 9, 10] (fun dv _ _ wr => dv = .int .i64 1 ∧ Below w.heap.size w wr) (fun dv _ _ _ => 0)
      case atStart => exact ⟨rfl, hb3.out⟩
      case round =>
        clear hb3
        obtain ⟨rfl, hB⟩ := hrel
        go_wp2_with fail
        refine (implDepth_as _ _ _ ps (n : Int) 1 false [] _ (HI.out.below hB) HS.out HF.out HRR.out).mono ?_
        rintro e w4 ⟨a4, c4, rfl, -, hb4⟩
        have hb5 := hB.trans (hb4.mono hB.size)
        clear hb4 hB
        go_wp2
        go_ret2
        exact ⟨rfl, hb5⟩
    · have e : conB ps lots = true := by rw [conB, hl, hf]; rfl
      rw [depWin, e, if_pos rfl, HLn.out] at hr
      have HR := Lib.hid hr
      rw [HLn.out] at hf
      have HF := Lib.hid hf
      have hT2 : totalL ps = sumL ps := by rw [totalL, if_pos (fits_parts hf).1]
      rw [HT.out] at hT2
      subst hT2
      clear hr e hl hf
      go_enter Try.func23, Try.ntmps23
      go_wp2_with fail
      refine (implLots_any _ _ _ lots _ HJ.out).mono ?_
      rw [HL.out]
      rintro e w1 ⟨rfl, hb⟩
      go_wp2_with fail
      refine (implTotal_as _ _ _ ps (sumL ps) _ (HI.out.below hb) HS.out HT.out).mono ?_
      rintro e w2 ⟨rfl, hb2⟩
      have hb3 := Lib.hid (hb.trans (hb2.mono hb.size))
      clear hb hb2
      go_wp2
      go_loopw [8, 9, 10] (fun dv _ _ wr => ∃ k : Nat, 1 ≤ k ∧ k ≤ n ∧ dv = .int .i64 (k : Int) ∧ Hid (∀ j, 1 ≤ j → j < k → overL (depL ps n j) (sumL ps) = false) ∧ Below w.heap.size w wr) (fun dv _ _ _ => n - (intOf dv).toNat)
      case atStart => exact ⟨1, Nat.le_refl _, hn.1, rfl, fun j h1 h2 => by omega, hb3.out⟩
      case round =>
        clear hb3
        obtain ⟨k, hk1, hkn, rfl, hA, hB⟩ := hrel
        have FIN : Hid ((k < n → overL (depL ps n k) (sumL ps) = true) → Hid (pickL lots (mostL (depL ps n k) (allL n)) = r ∧ (k : Int) = d)) := fun h4 => by
          have h5 := depAt_eq hk1 hkn hA.out h4
          have h6 := HR.out
          rw [Prod.ext_iff, h5, depW, HLn.out, h5] at h6
          exact h6
        have HOK : Hid (depOk ps (n : Int) (k : Int) = true) := by rw [Hid, depOk_in (by omega) (by omega)]; exact HF.out
        have HRR : Hid (depR ps (n : Int) (k : Int) = depL ps n k) := by rw [Hid, depR, if_pos HOK.out, Int.toNat_natCast, Int.toNat_natCast]
        go_wp2_with fail
        refine (implDepth_as _ _ _ ps (n : Int) (k : Int) true _ _ (HI.out.below hB) HS.out HOK.out HRR.out).mono ?_
        simp only [Told, depL_length]
        rintro e w4 ⟨a4, c4, rfl, ho4, hb4⟩
        have hB4 := hB.trans (hb4.mono hB.size)
        have I4 := Lib.hid (IsInts.of_owned ho4 (by omega))
        clear hb4 hB ho4
        by_cases hkn2 : k = n
        · subst hkn2
          have HD := FIN.out (fun g => absurd g (Nat.lt_irrefl _))
          have hee : ((k : Int) == (k : Int)) = true := by simp
          clear FIN hA
          go_wp2_with fail
          refine (great_as _ k _ (depL ps k k) _ _ lots _ I4.out (HJ.out.below hB4) HL.out (fun i _ => (depL_bound HF.out k i).1) r HD.out.1).mono ?_
          rintro e w5 ⟨rfl, hb5⟩
          have hb6 := hB4.trans (hb5.mono hB4.size)
          clear hb5 hB4
          go_wp2
          go_ret2
          exact ⟨by rw [HD.out.2]; rfl, hb6⟩
        · have hee : ((k : Int) == (n : Int)) = false := beq_eq_false_iff_ne.2 (by omega)
          obtain ⟨m, hm⟩ : ∃ m, maxTo (depL ps n k) (n - 1) = m := ⟨_, rfl⟩
          have hmb : 0 ≤ m ∧ m ≤ 10000 := by
            obtain ⟨i, _, he⟩ := maxTo_hit (depL ps n k) (n - 1)
            rw [← hm, ← he]; exact depL_bound HF.out k i
          have HOV : Hid (overL (depL ps n k) (sumL ps) = decide (sumL ps < 2 * m)) := by rw [Hid, ← hm]; exact over_great (depL_length _ _ _) (by omega) _
          have HM := Lib.hid hm
          clear hm
          go_wp2_with fail
          refine (slicesMax_as _ _ _ (depL ps n k) _ I4.out (by omega) m HM.out).mono ?_
          rintro e w5 ⟨rfl, rfl⟩
          by_cases hov : sumL ps < 2 * m
          · have HD := FIN.out (fun _ => by rw [HOV.out]; exact decide_eq_true hov)
            have hdd : decide (sumL ps < 2 * m) = true := decide_eq_true hov
            clear FIN hA
            go_wp2_with fail
            refine (great_as _ n _ (depL ps n k) _ _ lots _ I4.out (HJ.out.below hB4) HL.out (fun i _ => (depL_bound HF.out k i).1) r HD.out.1).mono ?_
            rintro e w5 ⟨rfl, hb5⟩
            have hb6 := hB4.trans (hb5.mono hB4.size)
            clear hb5 hB4
            go_wp2
            go_ret2
            exact ⟨by rw [HD.out.2]; rfl, hb6⟩
          · have hdd : decide (sumL ps < 2 * m) = false := decide_eq_false hov
            have HA2 : Hid (∀ j, 1 ≤ j → j < k + 1 → overL (depL ps n j) (sumL ps) = false) := fun j h1 h2 => by
              by_cases e : j = k
              · subst e; rw [HOV.out, hdd]
              · exact hA.out j h1 (by omega)
            clear I4 hA FIN
            go_wp2
            go_roundw
            case rel => exact ⟨k + 1, by omega, by omega, by go_num, HA2, hB4⟩
            case measure => simp [intOf]; omega

end Go.Proofs.Ytojfpnjnbpeniaa

namespace Go.Proofs.Ytojfpnjnbpeniaa

theorem depR_short {ps : List Pl} {n d : Int} : (depR ps n d).length ≤ 5 := by
  unfold depR
  by_cases h : depOk ps n d = true
  · rw [if_pos h, depL_length]
    have hf : fitsB ps n = true := by unfold depOk at h; simp only [Bool.and_eq_true] at h; exact h.1
    have := fits_parts hf
    omega
  · rw [if_neg h]; simp
theorem plaR_short {ps : List Pl} {n : Int} : (plaR ps n).length ≤ 5 := by
  unfold plaR
  by_cases h : fitsB ps n = true
  · rw [if_pos h, plaL_length]; have := fits_parts h; omega
  · rw [if_neg h]; simp
theorem lasR_short {ps : List Pl} {n : Int} : (lasR ps n).length ≤ 5 := by
  unfold lasR
  by_cases h : fitsB ps n = true
  · rw [if_pos h]; have := fits_parts h; simp [lasL]; omega
  · rw [if_neg h]; simp

end Go.Proofs.Ytojfpnjnbpeniaa

namespace Go.Proofs.Ytojfpnjnbpeniaa
open Go.RowKit

/-- The first k marks are in range. -/
def rankTo (zs : List Int) (k : Nat) : Bool := (List.range k).all fun i => inB (zs[i]?.getD 0) 0 9
theorem rankTo_succ (zs : List Int) (k : Nat) : rankTo zs (k + 1) = (rankTo zs k && inB (zs[k]?.getD 0) 0 9) := by
  simp [rankTo, List.range_succ]
theorem rankTo_no {zs : List Int} {k n : Nat} (h : rankTo zs (k + 1) = false) (hk : k < n) : rankTo zs n = false := by
  simp only [rankTo, List.all_eq_false, List.mem_range] at h ⊢
  obtain ⟨i, h1, h2⟩ := h
  exact ⟨i, by omega, h2⟩
/-- Marks are those of a form. -/
def rankB (zs : List Int) : Bool := rankTo zs zs.length && inB (zs.length : Int) 1 5
theorem rankB_len {zs : List Int} (h : rankB zs = true) : 1 ≤ zs.length ∧ zs.length ≤ 5 := by
  simp only [rankB, inB, Bool.and_eq_true, decide_eq_true_eq] at h
  omega
theorem rankB_at {zs : List Int} (h : rankB zs = true) (i : Nat) (hi : i < zs.length) : 0 ≤ zs[i]?.getD 0 ∧ zs[i]?.getD 0 ≤ 9 := by
  simp only [rankB, rankTo, inB, Bool.and_eq_true, decide_eq_true_eq, List.all_eq_true, List.mem_range] at h
  exact h.1 i hi

end Go.Proofs.Ytojfpnjnbpeniaa

namespace Go.Proofs.Ytojfpnjnbpeniaa

/-- How many readers have read the mark m at place c. -/
def cnt (rs : List (List Int)) (c : Nat) (m : Int) : Nat := rs.countP (fun r => r[c]?.getD 0 == m)
theorem cnt_nil (c : Nat) (m : Int) : cnt [] c m = 0 := rfl
theorem cnt_app (a b : List (List Int)) (c : Nat) (m : Int) : cnt (a ++ b) c m = cnt a c m + cnt b c m := by simp [cnt]
theorem cnt_one (r : List Int) (c : Nat) (m : Int) : cnt [r] c m = if r[c]?.getD 0 = m then 1 else 0 := by simp [cnt, List.countP_cons]
theorem cnt_take (rs : List (List Int)) (c : Nat) (m : Int) (k : Nat) (h : k < rs.length) : cnt (rs.take (k + 1)) c m = cnt (rs.take k) c m + (if (rs[k]?.getD [])[c]?.getD 0 = m then 1 else 0) := by
  rw [List.take_succ_eq_append_getElem h, cnt_app, cnt_one]
  simp [h]
theorem cnt_all (rs : List (List Int)) (c : Nat) (m : Int) : cnt (rs.take rs.length) c m = cnt rs c m := by rw [List.take_length]
theorem cnt_le (rs : List (List Int)) (c : Nat) (m : Int) : cnt rs c m ≤ rs.length := List.countP_le_length
theorem cnt_part (rs : List (List Int)) (c : Nat) (m : Int) (k : Nat) : cnt (rs.take k) c m ≤ cnt rs c m := by
  conv => rhs; rw [← List.take_append_drop k rs]
  rw [cnt_app]; omega
theorem cnt_two (rs : List (List Int)) (c : Nat) {m m' : Int} (h : m ≠ m') : cnt rs c m + cnt rs c m' ≤ rs.length := by
  induction rs with
  | nil => simp [cnt]
  | cons r t ih =>
    have e1 := cnt_app [r] t c m
    have e2 := cnt_app [r] t c m'
    rw [List.singleton_append] at e1 e2
    rw [e1, e2, cnt_one, cnt_one, List.length_cons]
    split <;> split <;> omega

/-- The greatest of the marks 0 .. k-1 that more than half of all readers have read, or -1. -/
def bestTo (rs : List (List Int)) (c : Nat) : Nat → Int
  | 0 => -1
  | k + 1 => if rs.length < 2 * cnt rs c (k : Int) then (k : Int) else bestTo rs c k
theorem bestTo_low (rs : List (List Int)) (c : Nat) : ∀ k : Nat, (∀ j : Nat, j < k → ¬ rs.length < 2 * cnt rs c (j : Int)) → bestTo rs c k = -1
  | 0, _ => rfl
  | k + 1, h => by rw [bestTo, if_neg (h k (by omega))]; exact bestTo_low rs c k (fun j hj => h j (by omega))
theorem bestTo_of (rs : List (List Int)) (c m : Nat) (h : rs.length < 2 * cnt rs c (m : Int)) : ∀ k, m < k → bestTo rs c k = (m : Int)
  | 0, h0 => by omega
  | k + 1, hk => by
    by_cases e : m = k
    · subst e; rw [bestTo, if_pos h]
    · have h2 := cnt_two rs c (m := (m : Int)) (m' := (k : Int)) (by omega)
      rw [bestTo, if_neg (by omega)]
      exact bestTo_of rs c m h k (by omega)
theorem bestTo_range (rs : List (List Int)) (c : Nat) : ∀ k, bestTo rs c k = -1 ∨ ∃ m : Nat, m < k ∧ bestTo rs c k = (m : Int) ∧ rs.length < 2 * cnt rs c (m : Int)
  | 0 => .inl rfl
  | k + 1 => by
    by_cases h : rs.length < 2 * cnt rs c (k : Int)
    · exact .inr ⟨k, by omega, by rw [bestTo, if_pos h], h⟩
    · rw [bestTo, if_neg h]
      rcases bestTo_range rs c k with e | ⟨m, hm, e, h2⟩
      · exact .inl e
      · exact .inr ⟨m, by omega, e, h2⟩
/-- The mark on which more than half of all readers agree at place c, or -1. -/
def bestB (rs : List (List Int)) (c : Nat) : Int := bestTo rs c 10
theorem bestB_range (rs : List (List Int)) (c : Nat) : bestB rs c = -1 ∨ ∃ m : Nat, m < 10 ∧ bestB rs c = (m : Int) ∧ rs.length < 2 * cnt rs c (m : Int) := bestTo_range rs c 10
theorem bestB_of {rs : List (List Int)} {c m : Nat} (hm : m < 10) (h : rs.length < 2 * cnt rs c (m : Int)) : bestB rs c = (m : Int) := bestTo_of rs c m h 10 hm
theorem bestB_none {rs : List (List Int)} {c : Nat} (h : ∀ m : Nat, m < 10 → ¬ rs.length < 2 * cnt rs c (m : Int)) : bestB rs c = -1 := bestTo_low rs c 10 h

/-- The first row. -/
def headL (rs : List (List Int)) : List Int := rs[0]?.getD []
def rowOk (rs : List (List Int)) (r : List Int) : Bool := rankB r && ((r.length : Int) == ((headL rs).length : Int))
def readTo (rs : List (List Int)) (k : Nat) : Bool := (List.range k).all fun i => rowOk rs (rs[i]?.getD [])
theorem readTo_succ (rs : List (List Int)) (k : Nat) : readTo rs (k + 1) = (readTo rs k && rowOk rs (rs[k]?.getD [])) := by simp [readTo, List.range_succ]
theorem readTo_no {rs : List (List Int)} {k n : Nat} (h : readTo rs (k + 1) = false) (hk : k < n) : readTo rs n = false := by
  simp only [readTo, List.all_eq_false, List.mem_range] at h ⊢
  obtain ⟨i, h1, h2⟩ := h
  exact ⟨i, by omega, h2⟩
/-- Readers are valid. -/
def readB (rs : List (List Int)) : Bool := readTo rs rs.length && inB (rs.length : Int) 1 5
theorem readB_iff (rs : List (List Int)) : readB rs = true ↔ (1 ≤ rs.length ∧ rs.length ≤ 5) ∧ (∀ r ∈ rs, rankB r = true) ∧ ∀ r ∈ rs, ∀ q ∈ rs, r.length = q.length := by
  simp only [readB, readTo, rowOk, inB, Bool.and_eq_true, List.all_eq_true, List.mem_range, decide_eq_true_eq, beq_iff_eq]
  constructor
  · rintro ⟨h, h1⟩
    have hall : ∀ r ∈ rs, rankB r = true ∧ r.length = (headL rs).length := by
      intro r hr
      obtain ⟨i, hi, rfl⟩ := List.mem_iff_getElem.1 hr
      have := h i hi
      simp only [hi, List.getElem?_eq_getElem, Option.getD_some] at this
      exact ⟨this.1, by omega⟩
    exact ⟨by omega, fun r hr => (hall r hr).1, fun r hr q hq => (hall r hr).2.trans (hall q hq).2.symm⟩
  · rintro ⟨h1, h2, h3⟩
    refine ⟨fun i hi => ?_, by omega⟩
    have e : rs[i]?.getD [] = rs[i] := by simp [hi]
    have e0 : headL rs = rs[0] := by simp [headL, show 0 < rs.length from by omega]
    rw [e, e0]
    exact ⟨h2 _ (List.getElem_mem hi), by rw [h3 _ (List.getElem_mem hi) _ (List.getElem_mem (show 0 < rs.length by omega))]⟩
theorem readB_len {rs : List (List Int)} (h : readB rs = true) : 1 ≤ rs.length ∧ rs.length ≤ 5 := ((readB_iff rs).1 h).1
theorem readB_row {rs : List (List Int)} (h : readB rs = true) (i : Nat) (hi : i < rs.length) : rankB (rs[i]?.getD []) = true ∧ (rs[i]?.getD []).length = (headL rs).length := by
  obtain ⟨h1, h2, h3⟩ := (readB_iff rs).1 h
  have e : rs[i]?.getD [] = rs[i] := by simp [hi]
  have e0 : headL rs = rs[0] := by simp [headL, show 0 < rs.length from by omega]
  rw [e, e0]
  exact ⟨h2 _ (List.getElem_mem hi), h3 _ (List.getElem_mem hi) _ (List.getElem_mem _)⟩
theorem readB_head {rs : List (List Int)} (h : readB rs = true) : 1 ≤ (headL rs).length ∧ (headL rs).length ≤ 5 := by
  have h1 := readB_len h
  have := readB_row h 0 (by omega)
  exact rankB_len this.1

/-- The marks at all places. -/
def bests (rs : List (List Int)) : List Int := (List.range (headL rs).length).map fun c => bestB rs c
theorem bests_length (rs : List (List Int)) : (bests rs).length = (headL rs).length := by simp [bests]
theorem bests_at (rs : List (List Int)) (c : Nat) (h : c < (headL rs).length) : (bests rs)[c]?.getD 0 = bestB rs c := by simp [bests, h]
/-- There is such a mark at each of the first k places. -/
def haveTo (rs : List (List Int)) (k : Nat) : Bool := (List.range k).all fun c => decide (0 ≤ bestB rs c)
theorem haveTo_succ (rs : List (List Int)) (k : Nat) : haveTo rs (k + 1) = (haveTo rs k && decide (0 ≤ bestB rs k)) := by simp [haveTo, List.range_succ]
theorem haveTo_no {rs : List (List Int)} {k n : Nat} (h : haveTo rs (k + 1) = false) (hk : k < n) : haveTo rs n = false := by
  simp only [haveTo, List.all_eq_false, List.mem_range] at h ⊢
  obtain ⟨i, h1, h2⟩ := h
  exact ⟨i, by omega, h2⟩
/-- All readers agree on all marks. -/
def agreeB (rs : List (List Int)) : Bool := readB rs && haveTo rs (headL rs).length
/-- What MarksAgree returns. -/
def agreeL (rs : List (List Int)) : List Int := if agreeB rs = true then bests rs else []
theorem agreeB_no {rs : List (List Int)} (h : readB rs = false) : agreeB rs = false := by simp [agreeB, h]
theorem agreeB_out {rs : List (List Int)} (h : haveTo rs (headL rs).length = false) : agreeB rs = false := by simp [agreeB, h]
theorem agreeB_yes {rs : List (List Int)} (h : readB rs = true) (h2 : haveTo rs (headL rs).length = true) : agreeB rs = true := by simp [agreeB, h, h2]
theorem agreeL_no {rs : List (List Int)} (h : agreeB rs = false) : agreeL rs = [] := by simp [agreeL, h]
theorem agreeL_yes {rs : List (List Int)} (h : agreeB rs = true) : agreeL rs = bests rs := by simp [agreeL, h]
theorem agreeB_both {rs : List (List Int)} (h : agreeB rs = true) : readB rs = true ∧ haveTo rs (headL rs).length = true := by simpa [agreeB] using h
theorem agreeL_short (rs : List (List Int)) : (agreeL rs).length ≤ 5 := by
  cases h : agreeB rs
  · simp [agreeL_no h]
  · rw [agreeL_yes h, bests_length]
    exact (readB_head (agreeB_both h).1).2
theorem have_at {rs : List (List Int)} (h : agreeB rs = true) (c : Nat) (hc : c < (headL rs).length) : ∃ m : Nat, m < 10 ∧ bestB rs c = (m : Int) ∧ rs.length < 2 * cnt rs c (m : Int) := by
  have h2 := (agreeB_both h).2
  simp only [haveTo, List.all_eq_true, List.mem_range, decide_eq_true_eq] at h2
  have h3 := h2 c hc
  rcases bestB_range rs c with e | h4
  · omega
  · exact h4
/-- What is agreed on are marks of a form. -/
theorem agreed_rank {rs : List (List Int)} (h : agreeB rs = true) : rankB (agreeL rs) = true := by
  have hh := readB_head (agreeB_both h).1
  rw [agreeL_yes h]
  simp only [rankB, rankTo, Bool.and_eq_true, List.all_eq_true, List.mem_range, inB, decide_eq_true_eq, bests_length]
  refine ⟨fun i hi => ?_, by omega⟩
  rw [bests_at rs i hi]
  obtain ⟨m, hm, e, _⟩ := have_at h i hi
  omega
/-- Readers who are all alike. -/
theorem agree_same {r : List Int} (hr : rankB r = true) (n : Nat) (h1 : 1 ≤ n) (h5 : n ≤ 5) : agreeB (List.replicate n r) = true ∧ agreeL (List.replicate n r) = r := by
  have hlen := rankB_len hr
  have hhead : headL (List.replicate n r) = r := by simp [headL, show 0 < n from h1]
  have hread : readB (List.replicate n r) = true := by
    rw [readB_iff]
    refine ⟨by simp; omega, fun q hq => ?_, fun q hq p hp => ?_⟩
    · rw [List.eq_of_mem_replicate hq]; exact hr
    · rw [List.eq_of_mem_replicate hq, List.eq_of_mem_replicate hp]
  have hb : ∀ c, c < r.length → bestB (List.replicate n r) c = r[c]?.getD 0 := by
    intro c hc
    have hat := rankB_at hr c hc
    obtain ⟨m, hm⟩ := Int.eq_ofNat_of_zero_le hat.1
    rw [hm]
    refine bestB_of (by omega) ?_
    have : cnt (List.replicate n r) c (m : Int) = n := by
      unfold cnt
      rw [List.countP_replicate]
      simp [hm]
    rw [this, List.length_replicate]; omega
  have hB : bests (List.replicate n r) = r := by
    apply List.ext_getElem
    · rw [bests_length, hhead]
    · intro i h1 h2
      simp only [bests, List.getElem_map, List.getElem_range]
      rw [hb i h2]; simp [h2]
  have hA : agreeB (List.replicate n r) = true := by
    refine agreeB_yes hread ?_
    simp only [haveTo, List.all_eq_true, List.mem_range, decide_eq_true_eq, hhead]
    intro c hc
    rw [hb c hc]
    exact (rankB_at hr c hc).1
  exact ⟨hA, by rw [agreeL_yes hA, hB]⟩

/-- The first reader as the last one. -/
def turnL (rs : List (List Int)) : List (List Int) := rs.drop 1 ++ [headL rs]
theorem turn_perm {rs : List (List Int)} (h : 0 < rs.length) : List.Perm (turnL rs) rs := by
  cases rs with
  | nil => simp at h
  | cons r t => simp [turnL, headL]
theorem readB_turn {rs : List (List Int)} (h : 0 < rs.length) : readB (turnL rs) = readB rs := by
  have hp := turn_perm h
  rw [Bool.eq_iff_iff, readB_iff, readB_iff, hp.length_eq]
  simp only [hp.mem_iff]
theorem cnt_turn {rs : List (List Int)} (h : 0 < rs.length) (c : Nat) (m : Int) : cnt (turnL rs) c m = cnt rs c m := (turn_perm h).countP_eq _
theorem bestTo_turn {rs : List (List Int)} (h : 0 < rs.length) (c : Nat) : ∀ k, bestTo (turnL rs) c k = bestTo rs c k
  | 0 => rfl
  | k + 1 => by rw [bestTo, bestTo, cnt_turn h, (turn_perm h).length_eq, bestTo_turn h c k]
theorem agree_turn {rs : List (List Int)} (h : 0 < rs.length) : agreeB (turnL rs) = agreeB rs ∧ agreeL (turnL rs) = agreeL rs := by
  have hb : ∀ c, bestB (turnL rs) c = bestB rs c := fun c => bestTo_turn h c 10
  cases hr : readB rs
  · have hr' : readB (turnL rs) = false := by rw [readB_turn h, hr]
    exact ⟨by rw [agreeB_no hr, agreeB_no hr'], by rw [agreeL_no (agreeB_no hr), agreeL_no (agreeB_no hr')]⟩
  · have hr' : readB (turnL rs) = true := by rw [readB_turn h, hr]
    have hp := turn_perm h
    have hl := (readB_iff rs).1 hr
    have hlen : (headL (turnL rs)).length = (headL rs).length := by
      have e1 : headL (turnL rs) ∈ turnL rs := by
        have : 0 < (turnL rs).length := by rw [hp.length_eq]; exact h
        simp [headL, this]
      have e2 : headL rs ∈ rs := by simp [headL, h]
      exact hl.2.2 _ (hp.mem_iff.1 e1) _ e2
    have hB : bests (turnL rs) = bests rs := by simp only [bests, hlen, hb]
    have hA : agreeB (turnL rs) = agreeB rs := by simp only [agreeB, hr, hr', haveTo, hlen, hb]
    exact ⟨hA, by simp only [agreeL, hA, hB]⟩

end Go.Proofs.Ytojfpnjnbpeniaa

namespace Go.Proofs.Ytojfpnjnbpeniaa
open Go.RowKit

/-- The slice value reads as the rows rs. -/
def IsRows (w : World) (a : Option Addr) (len cap : Nat) (rs : List (List Int)) : Prop :=
  rs.length = len ∧ len ≤ cap ∧ len ≤ 1048600 ∧ (0 < len → ∃ b off, a = some ⟨b, off, none⟩ ∧ b < w.heap.size ∧
    ∀ j, j < len → ∃ aj lj cj, w.cell? ⟨b, off + j, none⟩ = some (.slice aj lj cj) ∧ IsInts w aj lj cj (rs[j]?.getD []))

theorem IsRows.below {w w' : World} {a : Option Addr} {len cap : Nat} {rs : List (List Int)} (h : IsRows w a len cap rs) (hb : Below w.heap.size w w') : IsRows w' a len cap rs := by
  obtain ⟨h1, h2, h3, h4⟩ := h
  refine ⟨h1, h2, h3, fun hl => ?_⟩
  obtain ⟨b, off, e, hlt, hc⟩ := h4 hl
  refine ⟨b, off, e, Nat.lt_of_lt_of_le hlt hb.size, fun j hj => ?_⟩
  obtain ⟨aj, lj, cj, hcj, hj2⟩ := hc j hj
  exact ⟨aj, lj, cj, (hb.cell (p := ⟨b, off + j, none⟩) hlt).trans hcj, hj2.below hb⟩
theorem IsRows.dr {w w' : World} {a : Option Addr} {len cap : Nat} {rs : List (List Int)} (h : IsRows w a len cap rs) (hd : Dr w w') : IsRows w' a len cap rs := h.below (hd.below _)

/-- All rows have at least c + 1 ints. -/
def Wide (rs : List (List Int)) (c : Nat) : Prop := ∀ i, i < rs.length → c < (rs[i]?.getD []).length

end Go.Proofs.Ytojfpnjnbpeniaa
