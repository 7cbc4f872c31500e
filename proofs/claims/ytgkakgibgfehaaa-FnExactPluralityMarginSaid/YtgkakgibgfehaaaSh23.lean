/-
  impl.partCounts: the first counts of some piles, whatever their texts and numbers are: for every list of at most 1048600 piles (with texts of at most 1048600 bytes) and every list of at most 1048600 bools.
  Lots, as lists: what they are, how a seed draws them, the first of some, the seal. Of no memory.
  The greatest of some counts, of several ones the one who comes first in the lots: who it is, that there is one alone, and with two candidates exchanged. Of no memory.
  The plurality, as lists: the winner, a ballot more, two candidates exchanged, the margin. Of no memory.
  Runoffs, as lists: who has the least count, who has left before each round, when a runoff ends, who wins. Of no memory.
-/
import Derived.Test.YtgkakgibgfehaaaSh7
import Derived.Test.YtgkakgibgfehaaaSh22
import Derived.Test.YtgkakgibgfehaaaSh6
import Derived.Test.YtgkakgibgfehaaaOfL
import Derived.Test.YtgkakgibgfehaaaSh5
import Derived.Test.YtgkakgibgfehaaaSh8
namespace Go.Proofs.Ytgkakgibgfehaaa
open Go.RowKit

attribute [local go_sem] Oper.semAt_some

/-- One pile more: the first who is there gets its number, in 64 bits. -/
def stepW (L : List Bool) (cs : List Int) (p : Pl) : List Int := if firstB (parseL p.1) L < 0 then cs else cs.set (firstB (parseL p.1) L).toNat (IntKind.i64.wrap (cs[(firstB (parseL p.1) L).toNat]?.getD 0 + p.2))
def partW (L : List Bool) (ps : List Pl) : List Int := ps.foldl (stepW L) (List.replicate L.length 0)
theorem stepW_length (L : List Bool) (cs : List Int) (p : Pl) : (stepW L cs p).length = cs.length := by unfold stepW; split <;> simp
theorem foldW_length (L : List Bool) : ∀ (ps : List Pl) (cs : List Int), (ps.foldl (stepW L) cs).length = cs.length
  | [], _ => rfl
  | p :: ps, cs => by rw [List.foldl_cons, foldW_length L ps, stepW_length]
theorem partW_length (L : List Bool) (ps : List Pl) : (partW L ps).length = L.length := by unfold partW; rw [foldW_length, List.length_replicate]
theorem partW_next {L : List Bool} {ps : List Pl} {i : Nat} (h : i < ps.length) : partW L (ps.take (i + 1)) = stepW L (partW L (ps.take i)) (tAt ps i, mAt ps i) := by
  have e0 : (tAt ps i, mAt ps i) = ps[i] := by simp [tAt, mAt, h]
  unfold partW
  rw [List.take_succ_eq_append_getElem h, List.foldl_append, e0]; rfl
theorem firstB_range (zs : List Int) (L : List Bool) : firstB zs L = -1 ∨ (0 ≤ firstB zs L ∧ firstB zs L < (L.length : Int)) := by
  unfold firstB
  by_cases h : validB zs (L.length : Int) = true
  · rw [if_pos h]
    rcases firstL_mem zs L with g | g
    · exact .inl g
    · exact .inr ((vB_mem h).2.2 _ g)
  · rw [if_neg h]; exact .inl rfl

set_option maxRecDepth 100000 in
set_option maxHeartbeats 4000000 in
/-- **partCounts**. -/
theorem partCounts_as (a : Option Addr) (len cap : Nat) (ps : List Pl) (a' : Option Addr) (n cap' : Nat) (L : List Bool) (w : World) (h : IsPiles w a len cap ps) (hs : Small ps) (h' : IsBools w a' n cap' L) :
    Calls Tq.prog 88 #[.slice a len cap, .slice a' n cap'] w fun e w' => ∃ g, e = .returned (.slice (some ⟨g, 0, none⟩) n n) ∧ w'.ownsRow w.heap.size 3 1 (.slice (some ⟨g, 0, none⟩) n n) n ((partW L ps).map (Value.int .i64)) ∧ Below w.heap.size w w' := by
  obtain ⟨i0, hi, hz0, hz1, hz2⟩ := info_parts int_info
  have HI := Lib.hid h
  have HS := Lib.hid hs
  have H1 := Lib.hid h.1
  have HJ := Lib.hid h'
  have hLn := h'.1
  have hnm := h'.2.2.1
  have hlm := h.2.2.1
  clear h hs h'
  obtain ⟨g, hg⟩ : ∃ g, w.heap.size = g := ⟨_, rfl⟩
  go_enter Tq.func88, Tq.ntmps88
  go_wp2_with (at_make; refine wpList_make_full _ rfl _ _ 27 rfl w.heap.size 3 i0 (.int .i64 0) 1 Tq.underlying27 hi hz0 hz1 .i64 .i64 _ _ n rfl rfl rfl rfl (by rw [hz2]; omega) (by unfold maxLen; omega) (Nat.le_refl _) ?_; intro w3 hown hgrow)
  have hb3 : Below g w w3 := hg ▸ (Below.refl _ w).grown hgrow (Nat.le_refl _) (fun k e => by cases e)
  rw [hg] at hown
  have O3 : Hid (w3.ownsRow g 3 1 (.slice (some ⟨g, 0, none⟩) n n) n ((partW L (ps.take 0)).map (Value.int .i64))) := by
    have e : partW L (ps.take 0) = List.replicate n 0 := by rw [List.take_zero]; unfold partW; rw [List.foldl_nil, hLn]
    unfold Hid; rw [e, ← zeros_made]
    exact hown
  have HG := Lib.hid hg
  clear hown hgrow hg hi hz0 hz1 hz2
  go_wp2
  go_loopw [7, 8, 9, 10, 16] (fun _ _ _ _ iv wr => ∃ i : Nat, i ≤ len ∧ iv = .int .i64 (i : Int) ∧ Hid (wr.ownsRow g 3 1 (.slice (some ⟨g, 0, none⟩) n n) n ((partW L (ps.take i)).map (Value.int .i64))) ∧ Below g w wr) (fun _ _ _ _ iv _ => len - (intOf iv).toNat)
  case atStart => exact ⟨0, Nat.zero_le _, rfl, O3, hb3⟩
  case round =>
    clear O3 hb3
    obtain ⟨i, hil, rfl, hO, hB⟩ := hrel
    have hgr : g ≤ wr.heap.size := by have := hB.size; rw [HG.out] at this; exact this
    have hBw : Below w.heap.size w wr := HG.out.symm ▸ hB
    by_cases hlt : i < len
    · obtain ⟨b, off, rfl, hb, c0, c1⟩ := (HI.out.below hBw).at_text hlt
      obtain ⟨t, ht⟩ : ∃ t, tAt ps i = t := ⟨_, rfl⟩
      obtain ⟨m, hm⟩ : ∃ m, mAt ps i = m := ⟨_, rfl⟩
      obtain ⟨pl, hpl⟩ : ∃ pl, parseL t = pl := ⟨_, rfl⟩
      have hst : t.size ≤ 1048600 := by rw [← ht]; exact HS.out i
      have hl5 : pl.length ≤ 5 := by rw [← hpl]; exact parseL_short t
      have hips : i < ps.length := by rw [H1.out]; exact hlt
      have HNX : Hid (partW L (ps.take (i + 1)) = stepW L (partW L (ps.take i)) (t, m)) := by rw [Hid, partW_next hips, ht, hm]
      obtain ⟨cs, hcs⟩ : ∃ cs, partW L (ps.take i) = cs := ⟨_, rfl⟩
      have hcl : cs.length = n := by rw [← hcs, partW_length, hLn]
      obtain ⟨v, hv⟩ : ∃ v, validB (nums t) 5 = v := ⟨_, rfl⟩
      rw [hcs] at hO HNX
      rw [ht] at c0
      rw [hm] at c1
      have HPL := Lib.hid hpl
      have HV := Lib.hid hv
      have J3 := Lib.hid (HJ.out.below hBw)
      clear ht hpl hm hBw hcs hips hv
      go_wp2_with fail
      refine (implParse_as t pl v _ hst HPL.out HV.out).mono ?_
      rintro e w4 ⟨a4, c4, rfl, ho4, hb4⟩
      have hBx : Below wr.heap.size wr w4 := ((Below.refl _ _).alloc (Nat.le_refl _) _).trans (hb4.mono (by simp))
      have cm : w4.cell? ⟨wr.heap.size, 1, none⟩ = some (.int .i64 m) := (hb4.cell (p := ⟨wr.heap.size, 1, none⟩) (by simp)).trans ((World.cell?_alloc_mark wr _ _ (0, 0) 1).trans rfl)
      have hbm : wr.heap.size < w4.heap.size := by have := hb4.size; simp at this; omega
      have I4 := Lib.hid (IsInts.of_owned ho4 (by omega))
      have hO4 := Lib.hid (owns_under hO.out hBx)
      have J4 := Lib.hid (J3.out.below hBx)
      have hgl : g < wr.heap.size := (hO.out.lt g rfl).2
      have B4 : Below g w w4 := hB.trans (hBx.mono hgr)
      obtain ⟨gp, hgp⟩ : ∃ gp, wr.heap.size = gp := ⟨_, rfl⟩
      rw [hgp] at cm hbm hgl ⊢
      clear ho4 hb4 hBx hO hB c0 c1 hgp J3
      obtain ⟨k, hk⟩ : ∃ k, firstB pl L = k := ⟨_, rfl⟩
      have hkr : k = -1 ∨ (0 ≤ k ∧ k < (n : Int)) := by have := firstB_range pl L; rw [hk, hLn] at this; exact this
      have HK := Lib.hid hk
      clear hk
      go_wp2_with fail
      refine (implFirst_any _ _ _ pl _ _ _ L _ I4.out J4.out).mono ?_
      rintro e w5 ⟨he, hb5⟩
      rw [HK.out] at he
      subst he
      have hO5 := Lib.hid (owns_under hO4.out hb5)
      have B5 := Lib.hid (B4.trans (hb5.mono (by have := B4.size; rw [HG.out] at this; exact this)))
      have cm5 : w5.cell? ⟨gp, 1, none⟩ = some (.int .i64 m) := (hb5.cell (p := ⟨gp, 1, none⟩) hbm).trans cm
      clear hb5 hO4 J4 I4 B4 cm
      rcases hkr with rfl | ⟨hk0, hkn⟩
      · have O7 : Hid (w5.ownsRow g 3 1 (.slice (some ⟨g, 0, none⟩) n n) n ((partW L (ps.take (i + 1))).map (Value.int .i64))) := by
          have e : stepW L cs (t, m) = cs := by unfold stepW; rw [if_pos (by show firstB (parseL t) L < 0; rw [HPL.out, HK.out]; omega)]
          rw [Hid, HNX.out, e]; exact hO5.out
        clear hO5
        go_wp2
        go_roundw
        case rel => exact ⟨i + 1, by omega, by go_num, O7, B5.out⟩
        case measure => simp [intOf]; omega
      · obtain ⟨x, rfl⟩ := Int.eq_ofNat_of_zero_le hk0
        have hxn : x < n := by omega
        obtain ⟨cv, hcv⟩ : ∃ cv, cs[x]?.getD 0 = cv := ⟨_, rfl⟩
        obtain ⟨z, hz⟩ : ∃ z, IntKind.i64.wrap (cv + m) = z := ⟨_, rfl⟩
        have hne : ((x : Int) != -1) = true := bne_iff_ne.2 (by omega)
        have hcell : w5.drew.cell? ⟨g, x, none⟩ = some (.int .i64 cv) := by
          have h1 : w5.drew.cell? ⟨g, x, none⟩ = w5.cell? ⟨g, x, none⟩ := rfl
          rw [h1, hO5.out.cellAt x (by omega), ← hcv]
          have : x < cs.length := by omega
          simp [this]
        have hcell0 : w5.cell? ⟨g, x, none⟩ = some (.int .i64 cv) := hcell
        have hfz : w5.drew.frozen? ⟨g, x, none⟩ = false := hO5.out.frozenAt x
        have O7 : Hid ((w5.drew.setCell ⟨g, x, none⟩ (.int .i64 z)).ownsRow g 3 1 (.slice (some ⟨g, 0, none⟩) n n) n ((partW L (ps.take (i + 1))).map (Value.int .i64))) := by
          have h1 := (hO5.out.stored x (.int .i64 z)).1
          have e : stepW L cs (t, m) = cs.set x z := by
            unfold stepW
            simp only [HPL.out, HK.out]
            rw [if_neg (by omega), Int.toNat_natCast, hcv, hz]
          rw [Hid, HNX.out, e, ← map_set_int]; exact h1
        have B7 : Below g w (w5.drew.setCell ⟨g, x, none⟩ (.int .i64 z)) := (B5.out.drew).setCell (p := ⟨g, x, none⟩) (Nat.le_refl _) _
        clear hO5 hcv B5
        go_wp2_with fail
        refine region_quiet_tail 7 (by kernel_rfl) (by kernel_rfl) ?_
        simp only [List.take_succ_cons, List.take_zero, List.drop_succ_cons, List.drop_zero]
        repeat (go_big_quiet_step (fail))
        refine wpQuiet_nil ?_
        generalize w5.drew = w6 at O7 B7 hcell hfz ⊢
        go_wp2
        go_roundw
        case rel => exact ⟨i + 1, by omega, by go_num, O7, B7⟩
        case measure => simp [intOf]; omega
    · obtain rfl : i = len := by omega
      have hO9 : Hid (wr.ownsRow g 3 1 (.slice (some ⟨g, 0, none⟩) n n) n ((partW L ps).map (Value.int .i64))) := by
        have := hO.out; rw [List.take_of_length_le (by rw [H1.out]; exact Nat.le_refl _)] at this; exact this
      go_wp2
      go_ret
      exact ⟨g, rfl, HG.out.symm ▸ hO9.out, hBw⟩

end Go.Proofs.Ytgkakgibgfehaaa

namespace Go.Proofs.Ytgkakgibgfehaaa

end Go.Proofs.Ytgkakgibgfehaaa

namespace Go.Proofs.Ytgkakgibgfehaaa

/-! ### Two candidates exchanged. -/
end Go.Proofs.Ytgkakgibgfehaaa

namespace Go.Proofs.Ytgkakgibgfehaaa

end Go.Proofs.Ytgkakgibgfehaaa

namespace Go.Proofs.Ytgkakgibgfehaaa

/-! ### Who leaves. -/
/-! ### The rounds. -/
end Go.Proofs.Ytgkakgibgfehaaa
