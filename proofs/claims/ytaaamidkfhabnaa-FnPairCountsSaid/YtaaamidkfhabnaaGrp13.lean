/-
  What the drawn statements of pairs get: some list of at most 13 piles, and a number from 0 to 6.
  sameInts: whether two lists are equal. No condition but what each theorem says.
  hasInt: whether a list has a number. No condition but what each theorem says.
  sameTable at equal tables; what the walks of drawn pairs share.
-/
import Derived.Test.YtaaamidkfhabnaaGrp6
import Derived.Test.YtaaamidkfhabnaaGrp2
import Derived.Test.YtaaamidkfhabnaaBase
import Derived.Test.YtaaamidkfhabnaaGrp7
import Derived.Test.YtaaamidkfhabnaaGrp11
import Derived.Test.YtaaamidkfhabnaaGrp8
import Derived.BigQuiet
namespace Go.Proofs.Ytaaamidkfhabnaa
open Go.RowKit

attribute [local go_sem] Oper.semAt_some

set_option maxRecDepth 100000 in
set_option maxHeartbeats 4000000 in
/-- **l91Pairs**. -/
theorem l91Pairs_any (R p : Nat) (w : World) (h : Rd w R p) (hp : p + 3004 ≤ 1000000) :
    Calls Try.prog 43 #[.pointer (some ⟨R, 0, none⟩)] w fun e w' => ∃ (ps : List Pl) (g cap p' n : Nat), e = .returned (.tuple #[.slice (some ⟨g, 0, none⟩) ps.length cap, .int .i64 (n : Int)]) ∧
      w'.ownsRow w.heap.size 59 2 (.slice (some ⟨g, 0, none⟩) ps.length cap) ps.length (cellsP ps) ∧ Small ps ∧ Few ps ∧ ps.length ≤ 13 ∧ n ≤ 6 ∧ Rd w' R p' ∧ Step R w w' := by
  have H := Lib.hid h; clear h
  go_enter Try.func43, Try.ntmps43
  go_wp2_with fail
  refine (pick_any R p 4 _ H.out (by omega) (by omega) (by omega)).mono ?_
  rintro e w1 ⟨d, rfl, hd, hr, hs⟩
  have R1 := Lib.hid hr
  have S1 := Lib.hid hs
  clear hr hs H
  go_wp2_with fail
  refine (pick_any R (p + 1) 12 _ R1.out (by omega) (by omega) (by omega)).mono ?_
  rintro e w2 ⟨d2, rfl, hd2, hr, hs⟩
  have R2 := Lib.hid hr
  have S2 := Lib.hid (S1.out.trans hs)
  clear hr hs R1 S1
  cases h0 : ((d2 : Int) == 0)
  · obtain ⟨N, hN⟩ : ∃ N : Nat, (2 : Int) + (d : Int) = (N : Int) ∧ 2 ≤ N ∧ N ≤ 5 := ⟨2 + d, by omega, by omega, by omega⟩
    obtain ⟨q, hq⟩ : ∃ q : Int, max (min (N : Int) 5) 1 = q ∧ 0 ≤ q ∧ q ≤ 7 := ⟨_, rfl, by omega, by omega⟩
    have e1 := hN.1
    have e2 := hq.1
    go_wp2_with fail
    refine (l91Piles_any R (p + 1 + 1) q _ R2.out (by omega) hq.2.1 hq.2.2).mono ?_
    rintro e w3 ⟨ps, g, c, p3, rfl, ho, hsm, hf, hl13, hr3, hp3, hs3⟩
    have HO := Lib.hid (World.ownsRow.mono ho S2.out.size)
    have HS := Lib.hid (S2.out.trans hs3)
    have HM := Lib.hid hsm
    have HF := Lib.hid hf
    have HR := Lib.hid hr3
    clear ho hsm hf hr3 hs3 R2 S2
    go_wp2
    go_ret2
    exact ⟨ps, g, c, p3, N, rfl, HO.out, HM.out, HF.out, hl13, by omega, HR.out, HS.out⟩
  · go_wp2_with fail
    refine (pick_any R (p + 1 + 1) 7 _ R2.out (by omega) (by omega) (by omega)).mono ?_
    rintro e w3 ⟨N, rfl, hN, hr, hs⟩
    have R3 := Lib.hid hr
    have S3 := Lib.hid (S2.out.trans hs)
    clear hr hs R2 S2
    obtain ⟨q, hq⟩ : ∃ q : Int, max (min (N : Int) 5) 1 = q ∧ 0 ≤ q ∧ q ≤ 7 := ⟨_, rfl, by omega, by omega⟩
    have e2 := hq.1
    go_wp2_with fail
    refine (l91Piles_any R (p + 1 + 1 + 1) q _ R3.out (by omega) hq.2.1 hq.2.2).mono ?_
    rintro e w4 ⟨ps, g, c, p3, rfl, ho, hsm, hf, hl13, hr3, hp3, hs3⟩
    have HO := Lib.hid (World.ownsRow.mono ho S3.out.size)
    have HS := Lib.hid (S3.out.trans hs3)
    have HM := Lib.hid hsm
    have HF := Lib.hid hf
    have HR := Lib.hid hr3
    clear ho hsm hf hr3 hs3 R3 S3
    go_wp2
    go_ret2
    exact ⟨ps, g, c, p3, N, rfl, HO.out, HM.out, HF.out, hl13, by omega, HR.out, HS.out⟩

/-- What is drawn. -/
def DrewX (w : World) (e : Ending) (w' : World) : Prop := ∃ (ps : List Pl) (g c n : Nat), e = .returned (.tuple #[.slice (some ⟨g, 0, none⟩) ps.length c, .int .i64 (n : Int)]) ∧ HasP w w' ps g c ∧ n ≤ 6 ∧ Below w.heap.size w w'
set_option maxHeartbeats 2000000 in
/-- **DrawPairCounts**. -/
theorem drawXCounts_any (a : Option Addr) (len cap : Nat) (bs : List Int) (w : World) (h : IsBytes w a len bs) (hcap : len ≤ cap) (hl : len ≤ 1048600) :
    Calls Try.prog 15 #[.slice a len cap] w (DrewX w) := by
  have H := Lib.hid h; clear h
  go_enter Try.func15, Try.ntmps15
  go_wp2_with fail
  refine (open_any a len cap bs _ H.out hcap hl).mono ?_
  rintro e w1 ⟨rfl, hr, hb⟩
  have hw1 := hr.1
  go_wp2_with fail
  refine (l91Pairs_any w.heap.size 0 _ hr (by omega)).mono ?_
  rintro e w2 ⟨ps, g, c, p2, n, rfl, ho, hsm, hf, hl13, hn6, hr2, hs⟩
  have HO := Lib.hid (ho.mono hb.size)
  have HB := Lib.hid (hb.trans (hs.below (Nat.le_refl _) (Nat.le_of_lt hw1)))
  have HS := Lib.hid hsm
  have HF := Lib.hid hf
  clear ho hb hs hsm hf hr hr2
  go_wp2
  go_ret2
  exact ⟨ps, g, c, n, rfl, ⟨HO.out, HS.out, HF.out, hl13⟩, hn6, HB.out⟩
set_option maxHeartbeats 2000000 in
/-- **DrawPairWinner**. -/
theorem drawXWinner_any (a : Option Addr) (len cap : Nat) (bs : List Int) (w : World) (h : IsBytes w a len bs) (hcap : len ≤ cap) (hl : len ≤ 1048600) :
    Calls Try.prog 20 #[.slice a len cap] w (DrewX w) := by
  have H := Lib.hid h; clear h
  go_enter Try.func20, Try.ntmps20
  go_wp2_with fail
  refine (open_any a len cap bs _ H.out hcap hl).mono ?_
  rintro e w1 ⟨rfl, hr, hb⟩
  have hw1 := hr.1
  go_wp2_with fail
  refine (l91Pairs_any w.heap.size 0 _ hr (by omega)).mono ?_
  rintro e w2 ⟨ps, g, c, p2, n, rfl, ho, hsm, hf, hl13, hn6, hr2, hs⟩
  have HO := Lib.hid (ho.mono hb.size)
  have HB := Lib.hid (hb.trans (hs.below (Nat.le_refl _) (Nat.le_of_lt hw1)))
  have HS := Lib.hid hsm
  have HF := Lib.hid hf
  clear ho hb hs hsm hf hr hr2
  go_wp2
  go_ret2
  exact ⟨ps, g, c, n, rfl, ⟨HO.out, HS.out, HF.out, hl13⟩, hn6, HB.out⟩
set_option maxHeartbeats 2000000 in
/-- **DrawPairTop**. -/
theorem drawXTop_any (a : Option Addr) (len cap : Nat) (bs : List Int) (w : World) (h : IsBytes w a len bs) (hcap : len ≤ cap) (hl : len ≤ 1048600) :
    Calls Try.prog 26 #[.slice a len cap] w (DrewX w) := by
  have H := Lib.hid h; clear h
  go_enter Try.func26, Try.ntmps26
  go_wp2_with fail
  refine (open_any a len cap bs _ H.out hcap hl).mono ?_
  rintro e w1 ⟨rfl, hr, hb⟩
  have hw1 := hr.1
  go_wp2_with fail
  refine (l91Pairs_any w.heap.size 0 _ hr (by omega)).mono ?_
  rintro e w2 ⟨ps, g, c, p2, n, rfl, ho, hsm, hf, hl13, hn6, hr2, hs⟩
  have HO := Lib.hid (ho.mono hb.size)
  have HB := Lib.hid (hb.trans (hs.below (Nat.le_refl _) (Nat.le_of_lt hw1)))
  have HS := Lib.hid hsm
  have HF := Lib.hid hf
  clear ho hb hs hsm hf hr hr2
  go_wp2
  go_ret2
  exact ⟨ps, g, c, n, rfl, ⟨HO.out, HS.out, HF.out, hl13⟩, hn6, HB.out⟩
set_option maxHeartbeats 2000000 in
/-- **DrawPairPaths**. -/
theorem drawXPaths_any (a : Option Addr) (len cap : Nat) (bs : List Int) (w : World) (h : IsBytes w a len bs) (hcap : len ≤ cap) (hl : len ≤ 1048600) :
    Calls Try.prog 29 #[.slice a len cap] w (DrewX w) := by
  have H := Lib.hid h; clear h
  go_enter Try.func29, Try.ntmps29
  go_wp2_with fail
  refine (open_any a len cap bs _ H.out hcap hl).mono ?_
  rintro e w1 ⟨rfl, hr, hb⟩
  have hw1 := hr.1
  go_wp2_with fail
  refine (l91Pairs_any w.heap.size 0 _ hr (by omega)).mono ?_
  rintro e w2 ⟨ps, g, c, p2, n, rfl, ho, hsm, hf, hl13, hn6, hr2, hs⟩
  have HO := Lib.hid (ho.mono hb.size)
  have HB := Lib.hid (hb.trans (hs.below (Nat.le_refl _) (Nat.le_of_lt hw1)))
  have HS := Lib.hid hsm
  have HF := Lib.hid hf
  clear ho hb hs hsm hf hr hr2
  go_wp2
  go_ret2
  exact ⟨ps, g, c, n, rfl, ⟨HO.out, HS.out, HF.out, hl13⟩, hn6, HB.out⟩
set_option maxHeartbeats 2000000 in
/-- **DrawPairBest**. -/
theorem drawXBest_any (a : Option Addr) (len cap : Nat) (bs : List Int) (w : World) (h : IsBytes w a len bs) (hcap : len ≤ cap) (hl : len ≤ 1048600) :
    Calls Try.prog 32 #[.slice a len cap] w (DrewX w) := by
  have H := Lib.hid h; clear h
  go_enter Try.func32, Try.ntmps32
  go_wp2_with fail
  refine (open_any a len cap bs _ H.out hcap hl).mono ?_
  rintro e w1 ⟨rfl, hr, hb⟩
  have hw1 := hr.1
  go_wp2_with fail
  refine (l91Pairs_any w.heap.size 0 _ hr (by omega)).mono ?_
  rintro e w2 ⟨ps, g, c, p2, n, rfl, ho, hsm, hf, hl13, hn6, hr2, hs⟩
  have HO := Lib.hid (ho.mono hb.size)
  have HB := Lib.hid (hb.trans (hs.below (Nat.le_refl _) (Nat.le_of_lt hw1)))
  have HS := Lib.hid hsm
  have HF := Lib.hid hf
  clear ho hb hs hsm hf hr hr2
  go_wp2
  go_ret2
  exact ⟨ps, g, c, n, rfl, ⟨HO.out, HS.out, HF.out, hl13⟩, hn6, HB.out⟩

end Go.Proofs.Ytaaamidkfhabnaa

namespace Go.Proofs.Ytaaamidkfhabnaa
open Go.RowKit

set_option maxHeartbeats 1000000 in
/-- **sameInts**: whether two lists are equal. -/
theorem sameInts_any (a : Option Addr) (len cap : Nat) (zs : List Int) (b : Option Addr) (len' cap' : Nat) (ys : List Int) (w : World) (h : IsInts w a len cap zs) (h' : IsInts w b len' cap' ys) :
    Calls Try.prog 23 #[.slice a len cap, .slice b len' cap'] w fun e w' => e = .returned (.bool (eqB zs ys)) ∧ Dr w w' := by
  by_cases hl : len = len'
  · subst hl
    have hne : ((len : Int) != (len : Int)) = false := by simp
    have hm := h.2.2.1
    have H := Lib.hid h; clear h
    have H' := Lib.hid h'; clear h'
    go_enter Try.func23, Try.ntmps23
    go_wp2
    go_loopw [5] (fun i wr => ∃ k : Nat, k ≤ len ∧ i = .int .i64 k ∧ Hid (zs.take k = ys.take k) ∧ Dr w wr) (fun i _ => len - (intOf i).toNat)
    case atStart => exact ⟨0, Nat.zero_le _, rfl, by simp [Hid], Dr.refl _⟩
    case round =>
      obtain ⟨k, hk, rfl, ht, hd⟩ := hrel
      obtain ⟨h1, _, _, h4⟩ := H.out.dr hd
      obtain ⟨g1, _, _, g4⟩ := H'.out.dr hd
      have H1 := Lib.hid h1; clear h1
      have G1 := Lib.hid g1; clear g1
      by_cases hlt : k < len
      · obtain ⟨b1, o1, rfl, hb1, hc1⟩ := h4 (by omega)
        obtain ⟨b2, o2, rfl, hb2, hc2⟩ := g4 (by omega)
        have hz := hc1 k hlt
        have hy := hc2 k hlt
        clear hc1 hc2 h4 g4
        cases he : (zs[k]?.getD 0 == ys[k]?.getD 0)
        · have hn : (zs[k]?.getD 0 != ys[k]?.getD 0) = true := by simp [bne, he]
          have HE := Lib.hid he; clear he
          go_wp2
          go_quiet (fail)
          go_wp2
          go_ret
          exact ⟨ret_bool (take_part zs ys k HE.out).symm, hd.drewN _⟩
        · have hn : (zs[k]?.getD 0 != ys[k]?.getD 0) = false := by simp [bne, he]
          have HE := Lib.hid he; clear he
          go_wp2
          go_quiet (fail)
          go_wp2
          go_roundw
          case rel => exact ⟨k + 1, by omega, by go_num, take_step zs ys k (by rw [H1.out]; omega) (by rw [G1.out]; omega) ht.out (by simpa using HE.out), hd.drewN _⟩
          case measure => simp [intOf]; omega
      · obtain rfl : k = len := by omega
        clear h4 g4
        go_wp2
        go_ret
        refine ⟨ret_bool ?_, hd⟩
        have := ht.out
        rw [List.take_of_length_le (by rw [H1.out]; omega), List.take_of_length_le (by rw [G1.out]; omega)] at this
        rw [this, eqB_self]
  · have hne : ((len : Int) != (len' : Int)) = true := by rw [bne_iff_ne]; omega
    have e : eqB zs ys = false := by
      simp only [eqB, decide_eq_false_iff_not]
      rintro rfl
      exact hl (h.1.symm.trans h'.1)
    rw [e]
    clear e h h' hl
    go_enter Try.func23, Try.ntmps23
    go_wp2
    go_ret
    exact ⟨rfl, Dr.refl _⟩

end Go.Proofs.Ytaaamidkfhabnaa

namespace Go.Proofs.Ytaaamidkfhabnaa
open Go.RowKit

set_option maxHeartbeats 400000 in
/-- **hasInt**. -/
theorem hasInt_any (a : Option Addr) (len cap : Nat) (zs : List Int) (c : Int) (w : World) (h : IsInts w a len cap zs) :
    Calls Try.prog 28 #[.slice a len cap, .int .i64 c] w fun e w' => e = .returned (.bool (hasB zs c)) ∧ w = w' := by
  obtain ⟨h1, h2, h3, h4⟩ := h
  have H1 := Lib.hid h1; clear h1
  have H4 := Lib.hid h4; clear h4
  go_enter Try.func28, Try.ntmps28
  go_wp2
  go_loop [5] (fun i => ∃ k : Nat, k ≤ len ∧ i = .int .i64 k ∧ Hid (hasB (zs.take k) c = false)) (fun i => len - (intOf i).toNat)
  case atStart => exact ⟨0, Nat.zero_le _, rfl, by simp [Hid, hasB]⟩
  case round =>
    obtain ⟨k, hk, rfl, hc⟩ := hrel
    by_cases hlt : k < len
    · obtain ⟨b, off, rfl, hb, hcell⟩ := H4.out (by omega)
      have hck := hcell k hlt
      have HC := hasB_snoc zs k c (by rw [H1.out]; exact hlt)
      rw [hc.out, Bool.false_or] at HC
      have HC' := Lib.hid HC
      clear HC hcell
      by_cases heq : (zs[k]?.getD 0 == c) = true
      · go_wp2
        go_ret
        refine ⟨ret_bool ?_, rfl⟩
        have h5 := HC'.out
        rw [heq] at h5
        simp only [hasB, List.contains_iff_mem] at h5
        have h6 : c ∈ zs := List.mem_of_mem_take h5
        simp [hasB, h6]
      · have heq' : (zs[k]?.getD 0 == c) = false := by simpa using heq
        clear heq
        go_wp2
        go_round
        case rel => exact ⟨k + 1, by omega, by go_num, by unfold Hid; rw [HC'.out, heq']⟩
        case measure => simp [intOf]; omega
    · go_wp2
      go_ret
      refine ⟨ret_bool ?_, rfl⟩
      have h5 := hc.out
      rw [List.take_of_length_le (by rw [H1.out]; omega)] at h5
      exact h5.symm

/-- **hasInt**, its answer named. -/
theorem hasInt_as (a : Option Addr) (len cap : Nat) (zs : List Int) (c : Int) (v : Bool) (w : World) (h : IsInts w a len cap zs) (hv : hasB zs c = v) :
    Calls Try.prog 28 #[.slice a len cap, .int .i64 c] w fun e w' => e = .returned (.bool v) ∧ w = w' := by
  subst hv; exact hasInt_any a len cap zs c w h

end Go.Proofs.Ytaaamidkfhabnaa

namespace Go.Proofs.Ytaaamidkfhabnaa
open Go.RowKit

theorem quiet_dr8 {P : Program} {f : FuncId} {args : Array Value} {w : World} {n : Nat} {v : Value}
    (h : Calls P f args (w.drewN n) fun e w' => e = .returned v ∧ Dr (w.drewN n) w') : Calls P f args (w.drewN n) fun e w'' => e = .returned v ∧ ∃ m, w'' = w.drewN m :=
  h.mono fun _ _ ⟨he, q, hq⟩ => ⟨he, n + q, by rw [hq]; simp⟩

set_option maxHeartbeats 1000000 in
/-- **sameTable**, at equal rows. -/
theorem sameTable_same (a : Option Addr) (len cap : Nat) (b : Option Addr) (cap' : Nat) (rs : List (List Int)) (w : World) (h : IsRows w a len cap rs) (h' : IsRows w b len cap' rs) :
    Calls Try.prog 18 #[.slice a len cap, .slice b len cap'] w fun e w' => e = .returned (.bool true) ∧ Dr w w' := by
  have hm := h.2.2.1
  have hne : ((len : Int) != (len : Int)) = false := by simp
  have H := Lib.hid h; clear h
  have H' := Lib.hid h'; clear h'
  go_enter Try.func18, Try.ntmps18
  go_wp2
  go_loopw [5] (fun i wr => ∃ k : Nat, k ≤ len ∧ i = .int .i64 k ∧ Dr w wr) (fun i _ => len - (intOf i).toNat)
  case atStart => exact ⟨0, Nat.zero_le _, rfl, Dr.refl _⟩
  case round =>
    obtain ⟨k, hk, rfl, hd⟩ := hrel
    by_cases hlt : k < len
    · obtain ⟨-, -, -, h4⟩ := H.out.dr hd
      obtain ⟨-, -, -, g4⟩ := H'.out.dr hd
      obtain ⟨b1, o1, rfl, hb1, hc1⟩ := h4 (by omega)
      obtain ⟨b2, o2, rfl, hb2, hc2⟩ := g4 (by omega)
      obtain ⟨a1, l1, c1, hz, hI1⟩ := hc1 k hlt
      obtain ⟨a2, l2, c2, hy, hI2⟩ := hc2 k hlt
      obtain ⟨z, hzz⟩ : ∃ z, rs[k]?.getD [] = z := ⟨_, rfl⟩
      rw [hzz] at hI1 hI2
      have HI1 := Lib.hid hI1
      have HI2 := Lib.hid hI2
      have he : eqB z z = true := eqB_self z
      clear h4 g4 hc1 hc2 hI1 hI2 hzz
      go_wp2
      go_quiet (first | (go_at_call 23; exact quiet_dr8 (sameInts_any _ _ _ z _ _ _ z _ (HI1.out.drewN _) (HI2.out.drewN _))))
      go_wp2
      go_roundw
      case rel => exact ⟨k + 1, by omega, by go_num, hd.drewN _⟩
      case measure => simp [intOf]; omega
    · obtain rfl : k = len := by omega
      go_wp2
      go_ret
      exact ⟨rfl, hd⟩
theorem IsRows.empty (w : World) (a : Option Addr) (cap : Nat) : IsRows w a 0 cap [] := ⟨rfl, Nat.zero_le _, by omega, fun h => by omega⟩

theorem fits_sub {a b : List Pl} {n : Int} (h : fitsB a n = true) (hs : List.Sublist b a) : fitsB b n = true := by
  simp only [fitsB, Bool.and_eq_true, List.all_eq_true] at h ⊢
  exact ⟨piles_sub h.1 hs, h.2.1, fun p hp => h.2.2 p (hs.subset hp)⟩
theorem one_of {l : List Int} {a : Int} (h : ∀ z ∈ l, z = a) (ha : a ∈ l) (hp : l.Pairwise (· < ·)) : l = [a] := by
  cases l with
  | nil => cases ha
  | cons z t =>
    have hz := h z (by simp)
    subst hz
    cases t with
    | nil => rfl
    | cons y t =>
      have hy := h y (by simp)
      rw [List.pairwise_cons] at hp
      have := hp.1 y (by simp)
      omega
theorem cand_one {B : Nat → Bool} {n x0 : Nat} (hx0 : x0 < n) (h : ∀ x, x < n → (B x = true ↔ x = x0)) : candTo B n = [(x0 : Int)] := by
  refine one_of (fun z hz => ?_) ((candTo_has hx0).2 ((h x0 hx0).2 rfl)) (candTo_asc B n)
  obtain ⟨x, hx, hb, rfl⟩ := candTo_mem.1 hz
  rw [(h x hx).1 hb]
theorem lit_one (w : World) (z : Int) (t : TypeId) : IsInts (w.alloc (.cells #[.int .i64 z] t)) (some ⟨w.heap.size, 0, none⟩) 1 1 [z] :=
  ⟨rfl, Nat.le_refl _, by omega, fun _ => ⟨w.heap.size, 0, rfl, by simp, fun j hj => by
    obtain rfl : j = 0 := by omega
    exact (World.cell?_alloc_mark w _ t (0, 0) 0).trans rfl⟩⟩
theorem hasInt_as8 (a : Option Addr) (len cap : Nat) (zs : List Int) (c : Int) (t : Bool) (w : World) (h : IsInts w a len cap zs) (ht : hasB zs c = t) :
    Calls Try.prog 28 #[.slice a len cap, .int .i64 c] w fun e w' => e = .returned (.bool t) ∧ w = w' := by subst ht; exact hasInt_any a len cap zs c w h
theorem sameInts_self (a : Option Addr) (len cap : Nat) (zs : List Int) (b : Option Addr) (cap' : Nat) (w : World) (h : IsInts w a len cap zs) (h' : IsInts w b len cap' zs) :
    Calls Try.prog 23 #[.slice a len cap, .slice b len cap'] w fun e w' => e = .returned (.bool true) ∧ Dr w w' :=
  (sameInts_any a len cap zs b len cap' zs w h h').mono fun e w' ⟨he, hd⟩ => ⟨by rw [he, eqB_self], hd⟩
theorem cand_at {B : Nat → Bool} {n i : Nat} (h : i < (candTo B n).length) : ∃ x, x < n ∧ B x = true ∧ (candTo B n)[i]?.getD 0 = (x : Int) := by
  have hm : (candTo B n)[i]?.getD 0 ∈ candTo B n := by
    rw [List.getElem?_eq_getElem h]; exact List.getElem_mem h
  obtain ⟨x, hx, hb, e⟩ := candTo_mem.1 hm
  exact ⟨x, hx, hb, e⟩
theorem cand_up {B : Nat → Bool} {n j : Nat} (h : j + 1 < (candTo B n).length) : (candTo B n)[j]?.getD 0 < (candTo B n)[j + 1]?.getD 0 := by
  have hp := candTo_asc B n
  rw [List.pairwise_iff_getElem] at hp
  rw [List.getElem?_eq_getElem (by omega), List.getElem?_eq_getElem h]
  exact hp j (j + 1) (by omega) h (by omega)
theorem cand_hasB {B : Nat → Bool} {n x : Nat} (hx : x < n) : hasB (candTo B n) (x : Int) = B x := by
  unfold hasB
  cases h : B x
  · have : ¬ (x : Int) ∈ candTo B n := fun g => by rw [(candTo_has hx).1 g] at h; cases h
    simpa using this
  · have : (x : Int) ∈ candTo B n := (candTo_has hx).2 h
    simpa using this
theorem cand_index {B : Nat → Bool} {n x : Nat} (hx : x < n) (h : B x = true) : ∃ k, k < (candTo B n).length ∧ (candTo B n)[k]?.getD 0 = (x : Int) := by
  obtain ⟨k, hk, e⟩ := List.mem_iff_getElem.1 ((candTo_has hx).2 h)
  exact ⟨k, hk, by rw [List.getElem?_eq_getElem hk]; exact e⟩
theorem ptopF_short {ps : List Pl} {n : Int} : (ptopF ps n).length ≤ 5 := by
  unfold ptopF
  cases h : fitsB ps n
  · simp
  · obtain ⟨_, h1, h5, _⟩ := fits_parts h
    simp only [if_true]
    exact Nat.le_trans (candTo_short _ _) (by omega)
theorem pbestF_short {ps : List Pl} {n : Int} : (pbestF ps n).length ≤ 5 := by
  unfold pbestF
  cases h : fitsB ps n
  · simp
  · obtain ⟨_, h1, h5, _⟩ := fits_parts h
    simp only [if_true]
    exact Nat.le_trans (candTo_short _ _) (by omega)
theorem IsInts.get {w : World} {a : Option Addr} {len cap : Nat} {zs : List Int} (h : IsInts w a len cap zs) (hl : 0 < len) : ∃ b off, a = some ⟨b, off, none⟩ ∧ b < w.heap.size ∧ ∀ j, j < len → w.cell? ⟨b, off + j, none⟩ = some (.int .i64 (zs[j]?.getD 0)) := h.2.2.2 hl
/-- The two tables that are compared: impl's and the model's. -/
structure Two2 (w : World) (B : Nat) (ok : Bool) (n : Nat) (M : Nat → Nat → Int) (a b : Option Addr) (l c c' : Nat) : Prop where
  len : l = if ok = true then n else 0
  ia : IsRows w a l c (if ok = true then tabL n M else [])
  ib : IsRows w b l c' (if ok = true then tabL n M else [])

end Go.Proofs.Ytaaamidkfhabnaa
