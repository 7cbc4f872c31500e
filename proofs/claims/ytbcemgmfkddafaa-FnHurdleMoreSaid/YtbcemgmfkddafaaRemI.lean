/-
  impl.SeatsRemainder: a contract at all arguments. It writes into no memory that was there.
-/
import Derived.Test.YtbcemgmfkddafaaRemN
import Derived.Test.YtbcemgmfkddafaaGrp9
import Derived.Test.YtbcemgmfkddafaaGrp7
namespace Go.Proofs.Ytbcemgmfkddafaa
open Go.RowKit

attribute [local go_sem] Oper.semAt_some

/-- The first i of some numbers, zeros for the others. -/
def inPart (cs : List Int) (n i : Nat) : List Int := (List.range n).map fun k => if k < i then cs[k]?.getD 0 else 0
theorem inPart_zero (cs : List Int) (n : Nat) : inPart cs n 0 = List.replicate n 0 := by
  refine List.ext_getElem (by simp [inPart]) (fun k h1 h2 => ?_)
  simp [inPart]
theorem inPart_all {cs : List Int} {n : Nat} (h : cs.length = n) : inPart cs n n = cs := by
  refine List.ext_getElem (by simp [inPart, h]) (fun k h1 h2 => ?_)
  simp [inPart, h2, show k < n by rw [← h]; exact h2]
theorem inPart_next {cs : List Int} {n i : Nat} (_ : i < n) : inPart cs n (i + 1) = (inPart cs n i).set i (cs[i]?.getD 0) := by
  refine List.ext_getElem (by simp [inPart]) (fun k h1 h2 => ?_)
  rw [List.getElem_set]
  simp only [inPart, List.getElem_map, List.getElem_range]
  by_cases e : i = k
  · subst e; simp
  · rw [if_neg e]
    by_cases g : k < i
    · rw [if_pos (by omega), if_pos g]
    · rw [if_neg (by omega), if_neg g]
theorem owns_only {w w' : World} {S g n cap base size : Nat} {bs : List Nat} {e : TypeId} {xs : List Value} (h : w.ownsRow base e size (.slice (some ⟨g, 0, none⟩) n cap) n xs) (hc : Only w w' S bs) (h1 : g ≠ S) (h2 : g ∉ bs) : w'.ownsRow base e size (.slice (some ⟨g, 0, none⟩) n cap) n xs := by
  refine ⟨h.1, ?_⟩
  rcases h.2 with hn | ⟨g', cap', cur, e1, e2, e3, e4⟩
  · exact .inl hn
  · have eg : g' = g := by
      injection e1 with e1 _ _
      injection e1 with e1
      injection e1 with e1 _ _
      exact e1.symm
    subst eg
    exact .inr ⟨g', cap', cur, e1, e2, (hc.block g' h1 h2).trans e3, e4⟩

set_option maxRecDepth 100000 in
set_option maxHeartbeats 8000000 in
/-- **impl.SeatsRemainder**, at valid arguments. -/
theorem implRem_yes (a : Option Addr) (n cap : Nat) (vs : List Int) (s : Int) (al : Option Addr) (cl : Nat) (lots : List Int) (r : List Int) (w : World) (h : IsInts w a n cap vs) (hl : IsInts w al n cl lots) (hk : okR vs s lots = true) (hr : upL vs s lots (lfN vs s) = r) :
    Calls Try.prog 23 #[.slice a n cap, .int .i64 s, .slice al n cl] w (Told w r true) := by
  obtain ⟨i0, hi, hz0, hz1, hz2⟩ := info_parts int_info
  obtain ⟨k1, k2, k3, k4⟩ := (okR_iff vs s lots).1 hk
  have hnv := h.1
  have hn5 : n ≤ 5 := by have := (lotsB_len k3).2; omega
  have hn1 : 1 ≤ n := by have := (lotsB_len k3).1; omega
  have HI := Lib.hid h
  have HL := Lib.hid hl
  have HV := Lib.hid k1
  have HS := Lib.hid (inB_yes (x := s) (lo := 0) (hi := 20) (by omega) (by omega))
  have HLB := Lib.hid k3
  have HEQ := Lib.hid k4
  have HNV := Lib.hid hnv
  have HR := Lib.hid hr
  have HLF := Lib.hid (lf_is k1 k2)
  obtain ⟨G, hG⟩ : ∃ G, w.heap.size = G := ⟨_, rfl⟩
  have HG := Lib.hid hG
  clear h hl hk hr hnv k1 k3 k4
  go_enter Try.func23, Try.ntmps23
  go_wp2_with fail
  refine (inRange_as s true _ HS.out).mono ?_
  rintro e w1 ⟨rfl, rfl⟩
  go_wp2_with fail
  refine (votes_as _ n cap vs true _ HI.out HV.out).mono ?_
  rintro e w1 ⟨rfl, rfl⟩
  go_wp2_with fail
  refine (lotsOf_as _ _ _ lots n true _ HL.out (by rw [HLB.out]; simp)).mono ?_
  rintro e w1 ⟨rfl, hb⟩
  have HB1 := Lib.hid hb
  clear hb
  go_wp2_with fail
  refine (shares_as _ n cap vs s _ _ (HI.out.below HB1.out) HV.out k2 rfl).mono ?_
  rintro e w2 ⟨g1, rfl, ho1, hb2⟩
  have hsz2 : G ≤ w2.heap.size := by rw [← hG]; exact Nat.le_trans HB1.out.size hb2.size
  have HB2 := Lib.hid (below_on HB1.out hb2)
  have O1 := Lib.hid (World.ownsRow.mono (base' := G) ho1 (by rw [← hG]; exact HB1.out.size))
  clear ho1 hb2
  go_wp2_with (at_make; refine wpList_make_full _ rfl _ _ 23 rfl G 3 i0 (.int .i64 0) 1 Try.underlying23 hi hz0 hz1 .i64 .i64 _ _ n rfl rfl rfl rfl (by rw [hz2]; omega) (by unfold maxLen; omega) hsz2 ?_; intro w3 hown hgrow)
  obtain ⟨gg, hgg⟩ : ∃ gg, w2.heap.size = gg := ⟨_, rfl⟩
  have HB3 : Hid (Below w2.heap.size w2 w3) := (Below.refl _ w2).grown hgrow (Nat.le_refl _) (fun k e => by cases e)
  rw [hgg] at hown ⊢
  have O3 : Hid (w3.ownsRow G 3 1 (.slice (some ⟨gg, 0, none⟩) n n) n ((inPart (loL vs s) n 0).map (Value.int .i64))) := by
    unfold Hid; rw [inPart_zero, ← zeros_made]; exact hown
  have O13 := Lib.hid (owns_under O1.out HB3.out)
  have HBW3 : Hid (Below G w w3) := hG ▸ below_on HB2.out HB3.out
  have HII : Hid (∀ wr, Below G w wr → IsInts wr al n cl lots) := fun wr hb => HL.out.below (HG.out.symm ▸ hb)
  have hgg3 : gg < w3.heap.size := (O3.out.lt gg rfl).2
  have hg1g : g1 ≠ gg := by have := (O1.out.lt g1 rfl).2; omega
  clear hown hgrow O1
  go_wp2
  go_loopw [10, 11, 36] (fun _ _ iv wr => ∃ (i : Nat), i ≤ n ∧ iv = .int .i64 (i : Int) ∧ Hid (wr.ownsRow G 3 1 (.slice (some ⟨gg, 0, none⟩) n n) n ((inPart (loL vs s) n i).map (Value.int .i64))) ∧ Hid (wr.ownsRow G 58 2 (.slice (some ⟨g1, 0, none⟩) n n) n (cellsF (shL vs s))) ∧ Hid (Below G w wr)) (fun _ _ iv _ => n - (intOf iv).toNat)
  case atStart => exact ⟨0, Nat.zero_le _, rfl, O3, O13, HBW3⟩
  case round =>
    clear O3 O13 HBW3
    obtain ⟨i, hin, rfl, hO, hO1, hB⟩ := hrel
    by_cases hlt : i < n
    · have hvn : i < vs.length := by rw [HNV.out]; exact hlt
      have s0 : wr.cell? ⟨g1, i * 2, none⟩ = some (.int .i64 (loF vs s (i : Int))) := by
        rw [hO1.out.cellAt (i * 2) (by omega), cellsF_num _ _ (by rw [shL_length]; exact hvn), shL_at s hvn]
      have s1 : wr.cell? ⟨g1, i * 2 + 1, none⟩ = some (.int .i64 (ovF vs s (i : Int))) := by
        rw [hO1.out.cellAt (i * 2 + 1) (by omega), cellsF_den _ _ (by rw [shL_length]; exact hvn), shL_at s hvn]
      have HX : Hid ((loL vs s)[i]?.getD 0 = loF vs s (i : Int)) := loL_at s hvn
      obtain ⟨x, hx⟩ : ∃ x, loF vs s (i : Int) = x := ⟨_, rfl⟩
      obtain ⟨y, hy⟩ : ∃ y, ovF vs s (i : Int) = y := ⟨_, rfl⟩
      rw [hx] at s0 HX
      rw [hy] at s1
      have hii : (i : Int) < (n : Int) := by omega
      have hBA : Below wr.heap.size wr (wr.alloc (.cells #[.int .i64 x, .int .i64 y] 58)) := (Below.refl _ wr).alloc (Nat.le_refl _) _
      have OA := Lib.hid (owns_under hO.out hBA)
      have OA1 := Lib.hid (owns_under hO1.out hBA)
      have hil : (inPart (loL vs s) n i).length = n := by simp [inPart]
      have c0 := owns_int OA.out hil hlt rfl
      have f0 : (wr.alloc (.cells #[.int .i64 x, .int .i64 y] 58)).frozen? ⟨gg, i, none⟩ = false := OA.out.frozenAt i
      have HST := Lib.hid (OA.out.stored i (.int .i64 x))
      have hgG : G ≤ gg := (OA.out.lt gg rfl).1
      have O4 : Hid (((wr.alloc (.cells #[.int .i64 x, .int .i64 y] 58)).setCell ⟨gg, i, none⟩ (.int .i64 x)).ownsRow G 3 1 (.slice (some ⟨gg, 0, none⟩) n n) n ((inPart (loL vs s) n (i + 1)).map (Value.int .i64))) := by
        unfold Hid; rw [inPart_next hlt, HX.out, ← map_set_int]; exact HST.out.1
      have O5 : Hid (((wr.alloc (.cells #[.int .i64 x, .int .i64 y] 58)).setCell ⟨gg, i, none⟩ (.int .i64 x)).ownsRow G 58 2 (.slice (some ⟨g1, 0, none⟩) n n) n (cellsF (shL vs s))) :=
        OA1.out.kept HST.out.2 (.inr (by simp [Value.ownBlock]; exact hg1g))
      have B4 : Hid (Below G w ((wr.alloc (.cells #[.int .i64 x, .int .i64 y] 58)).setCell ⟨gg, i, none⟩ (.int .i64 x))) :=
        (hB.out.alloc (by have := hB.out.size; omega) _).setCell (p := ⟨gg, i, none⟩) hgG _
      clear hx hy hvn HST OA OA1 hO hO1 hB hBA
      go_wp2
      go_roundw
      case rel => exact ⟨i + 1, by omega, by go_num, O4, O5, B4⟩
      case measure => simp [intOf]; omega
    · obtain rfl : i = n := by omega
      have O6 := hO.out
      rw [inPart_all (by rw [loL_length]; exact HNV.out), ← upL_zero vs s lots] at O6
      have O6 := Lib.hid O6
      have hBw : Below w.heap.size w wr := HG.out.symm ▸ hB.out
      have HFR := Lib.hid (IsFr.of_owned hO1.out (by omega))
      have HIL := Lib.hid (HII.out wr hB.out)
      have HMEM : Hid (∀ z ∈ lots, 0 ≤ z ∧ z < (i : Int)) := fun z hz => by
        have := lotsB_mem HLB.out z hz
        rw [HEQ.out, HNV.out] at this
        exact this
      have HOV : Hid (∀ z : Nat, z < i → (fAt (shL vs s) z).2 = ovF vs s (z : Int)) := fun z hz => by rw [shL_at s (by rw [HNV.out]; exact hz)]
      have HB6 := hB
      clear hO hO1 hB
      go_wp2_with fail
      refine (newStack_as _ i i (shL vs s) al cl lots (ovF vs s) _ HFR.out HIL.out (by omega) HMEM.out HOV.out).mono ?_
      rintro e w7 ⟨S, bs, rfl, hstk, hS, hbs, hb7⟩
      have O7 := Lib.hid (owns_under O6.out hb7)
      have hgw : gg < wr.heap.size := (O6.out.lt gg rfl).2
      have hGw : G ≤ wr.heap.size := by have := HB6.out.size; omega
      have B7 : Hid (Below G w w7) := HB6.out.trans (hb7.mono hGw)
      have ST7 : Hid (Stk w7 S (ovF vs s) bs ((stR (ovF vs s) lots).drop 0)) := by unfold Hid; rw [List.drop_zero]; exact hstk
      obtain ⟨T0, hT0⟩ : ∃ T0, totI (loL vs s) = T0 := ⟨_, rfl⟩
      obtain ⟨L, hL⟩ : ∃ L, lfN vs s = L := ⟨_, rfl⟩
      have HLFN := HLF.out
      rw [hT0, hL] at HLFN
      obtain ⟨q1, -, q3⟩ := HLFN
      rw [HNV.out] at q3
      have HTT : Hid (totI (upL vs s lots 0) = T0) := by rw [Hid, upL_zero]; exact hT0
      have HLB0 : Hid (∀ x : Nat, x < i → 0 ≤ (upL vs s lots 0)[x]?.getD 0 ∧ (upL vs s lots 0)[x]?.getD 0 ≤ 100000) := fun x hx => by
        have := up_in HV.out k2 HLB.out HEQ.out (Nat.zero_le _) (show x < vs.length by rw [HNV.out]; exact hx)
        omega
      have hw1 : s - T0 = (L : Int) := by omega
      have hww : IntKind.i64.wrap (s - T0) = (L : Int) := by rw [hw1]; exact IntWalk.i64_in _ (by omega)
      have HLN := Lib.hid hL
      have hgS : gg ≠ S := by omega
      have hGS : G ≤ S := by omega
      have hgG : G ≤ gg := (O6.out.lt gg rfl).1
      clear hstk hb7 hL hT0 q1 HB6 O6 HFR HIL
      go_wp2_with fail
      refine (implSum_as _ i i (upL vs s lots 0) T0 _ (IsInts.of_owned O7.out (by omega)) (by omega) HLB0.out HTT.out).mono ?_
      rintro e w8 ⟨rfl, rfl⟩
      go_wp2
      go_loopw [54] (fun iv wr => ∃ (k : Nat) (bs : List Nat), k ≤ L ∧ iv = .int .i64 (k : Int) ∧ Hid (wr.ownsRow G 3 1 (.slice (some ⟨gg, 0, none⟩) i i) i ((upL vs s lots k).map (Value.int .i64))) ∧ Hid (Stk wr S (ovF vs s) bs ((stR (ovF vs s) lots).drop k)) ∧ Hid (∀ b ∈ bs, gg < b) ∧ Hid (Below G w wr)) (fun iv _ => L - (intOf iv).toNat)
      case atStart => exact ⟨0, bs, Nat.zero_le _, rfl, O7, ST7, fun b hb => by have := hbs b hb; omega, B7⟩
      case round =>
        clear O7 ST7 B7 hww hw1
        obtain ⟨k, bs, hkL, rfl, hO, hT, hlow, hB⟩ := hrel
        by_cases hlt : k < L
        · have HKL : Hid (k < lfN vs s) := by unfold Hid; rw [HLN.out]; exact hlt
          have hkl : k < lots.length := by rw [HEQ.out, HNV.out]; omega
          obtain ⟨-, tp0, tp1⟩ := tp_in (vs := vs) (s := s) HLB.out HEQ.out k
          have HSU := up_step (vs := vs) (s := s) HLB.out HEQ.out k
          have hpop := (pop_top (R := ovF vs s) (vB_nodup HLB.out) (lots_ne HLB.out) (fun z => (over_range ((voteB_iff vs).1 HV.out).2).1) k (by omega)).2 hkl
          have hsk : k < (stR (ovF vs s) lots).length := by rw [stR_length]; exact hkl
          obtain ⟨p, hp⟩ : ∃ p, tpA vs s lots k = p := ⟨_, rfl⟩
          have hpe : (stR (ovF vs s) lots)[k] = p := by rw [← hp]; unfold tpA; rw [hpop]; simp [hsk]
          rw [hp] at tp0 tp1 HSU
          have hT2 := hT.out
          rw [List.drop_eq_getElem_cons hsk, hpe] at hT2
          obtain ⟨b0, bs0, rfl⟩ : ∃ b0 bs0, bs = b0 :: bs0 := by
            cases bs with
            | nil => exact hT2.lst.elim
            | cons b0 bs0 => exact ⟨b0, bs0, rfl⟩
          obtain ⟨q, rfl⟩ := Int.eq_ofNat_of_zero_le tp0
          rw [Int.toNat_natCast] at HSU
          have hqn : q < i := by rw [← HNV.out]; omega
          have hull : (upL vs s lots k).length = i := by rw [upL_length]; exact HNV.out
          have hub := up_in HV.out k2 HLB.out HEQ.out (show k ≤ lfN vs s by have := HKL.out; omega) (show q < vs.length by rw [HNV.out]; exact hqn)
          obtain ⟨z, hz⟩ : ∃ z, (upL vs s lots k)[q]?.getD 0 = z := ⟨_, rfl⟩
          rw [hz] at hub HSU
          have HSU := Lib.hid HSU
          have HZ := Lib.hid hz
          have HUL := Lib.hid hull
          have HT2 := Lib.hid hT2
          clear hz hull hT2 hT hpop hpe hp tp0 tp1 hsk hkl
          go_wp2_with fail
          refine (pop_as S b0 (ovF vs s) bs0 (q : Int) _ _ HT2.out).mono ?_
          rintro e w9 ⟨rfl, hst9, hn9, -, ho9⟩
          have O9 := Lib.hid (owns_only hO.out ho9 hgS (by simp))
          have cp : w9.cell? ⟨b0, 0, none⟩ = some (.int .i64 (q : Int)) := rb_cell hn9 0
          have cz := owns_int O9.out HUL.out hqn HZ.out
          have fz : w9.frozen? ⟨gg, q, none⟩ = false := O9.out.frozenAt q
          have B9 : Hid (Below G w w9) := hB.out.trans (ho9.below hGS (fun k hk => by cases hk))
          have HST := Lib.hid (O9.out.stored q (.int .i64 (z + 1)))
          have O10 : Hid ((w9.setCell ⟨gg, q, none⟩ (.int .i64 (z + 1))).ownsRow G 3 1 (.slice (some ⟨gg, 0, none⟩) i i) i ((upL vs s lots (k + 1)).map (Value.int .i64))) := by
            unfold Hid; rw [HSU.out, ← map_set_int]; exact HST.out.1
          have ST10 : Hid (Stk (w9.setCell ⟨gg, q, none⟩ (.int .i64 (z + 1))) S (ovF vs s) bs0 ((stR (ovF vs s) lots).drop (k + 1))) :=
            hst9.kept (rb_other (Ne.symm hgS)) (fun b hb => rb_other (fun e => by have := hlow.out b (by simp [hb]); omega))
          have B10 : Hid (Below G w (w9.setCell ⟨gg, q, none⟩ (.int .i64 (z + 1)))) := B9.out.setCell (p := ⟨gg, q, none⟩) hgG _
          have HLW : Hid (∀ b ∈ bs0, gg < b) := fun b hb => hlow.out b (by simp [hb])
          have hqi : (q : Int) < (i : Int) := by omega
          clear hst9 hn9 ho9 O9 B9 HST hO hlow hB HSU HT2
          go_wp2
          go_roundw
          case rel => exact ⟨k + 1, bs0, by omega, by go_num, O10, ST10, HLW, B10⟩
          case measure => simp [intOf]; omega
        · obtain rfl : k = L := by omega
          have hrl : r.length = i := by rw [← HR.out, upL_length]; exact HNV.out
          have HRL := Lib.hid hrl
          have HRE : Hid (upL vs s lots k = r) := by rw [Hid, ← HLN.out]; exact HR.out
          have hBw : Below w.heap.size w wr := HG.out.symm ▸ hB.out
          clear hrl
          go_wp2
          go_ret2
          refine ⟨some ⟨gg, 0, none⟩, i, by rw [HRL.out]; rfl, ?_, hBw⟩
          rw [HRL.out, ← HRE.out, HG.out]
          exact hO.out

set_option maxRecDepth 100000 in
set_option maxHeartbeats 4000000 in
/-- **impl.SeatsRemainder**, at other arguments. -/
theorem implRem_no (a : Option Addr) (n cap : Nat) (vs : List Int) (s : Int) (al : Option Addr) (nl cl : Nat) (lots : List Int) (w : World) (h : IsInts w a n cap vs) (hl : IsInts w al nl cl lots) (hk : okR vs s lots = false) :
    Calls Try.prog 23 #[.slice a n cap, .int .i64 s, .slice al nl cl] w (Told w [] false) := by
  have HI := Lib.hid h
  have HL := Lib.hid hl
  have HNV := Lib.hid h.1
  have HNL := Lib.hid hl.1
  obtain ⟨v1, hv1⟩ : ∃ v, inB s 0 20 = v := ⟨_, rfl⟩
  obtain ⟨v2, hv2⟩ : ∃ v, voteB vs = v := ⟨_, rfl⟩
  obtain ⟨v3, hv3⟩ : ∃ v, (lotsB lots && decide (nl = n)) = v := ⟨_, rfl⟩
  have V1 := Lib.hid hv1
  have V2 := Lib.hid hv2
  have V3 := Lib.hid hv3
  have HK : Hid ((v2 && (v1 && v3)) = false) := by
    unfold Hid; rw [← hk, ← hv1, ← hv2, ← hv3, ← HNV.out, ← HNL.out]; rfl
  have HT : Hid (∀ w1, Below w.heap.size w w1 → Told w [] false (.returned (.tuple #[.slice none 0 0, .bool false])) w1) := fun w1 hb =>
    ⟨none, 0, rfl, ⟨rfl, .inl ⟨rfl, rfl⟩⟩, hb⟩
  clear h hl hk hv1 hv2 hv3
  go_enter Try.func23, Try.ntmps23
  go_wp2_with fail
  refine (inRange_as s v1 _ V1.out).mono ?_
  rintro e w1 ⟨rfl, rfl⟩
  cases v1
  · go_wp2
    go_ret2
    exact HT.out _ (Below.refl _ _)
  go_wp2_with fail
  refine (votes_as _ n cap vs v2 _ HI.out V2.out).mono ?_
  rintro e w1 ⟨rfl, rfl⟩
  cases v2
  · go_wp2
    go_ret2
    exact HT.out _ (Below.refl _ _)
  have hv3 : v3 = false := by have := HK.out; simpa using this
  subst hv3
  go_wp2_with fail
  refine (lotsOf_as _ _ _ lots n false _ HL.out V3.out).mono ?_
  rintro e w1 ⟨rfl, hb⟩
  go_wp2
  go_ret2
  exact HT.out _ hb

/-- **impl.SeatsRemainder**. -/
theorem implRem_as (a : Option Addr) (n cap : Nat) (vs : List Int) (s : Int) (al : Option Addr) (nl cl : Nat) (lots : List Int) (r : List Int) (v : Bool) (w : World) (h : IsInts w a n cap vs) (hl : IsInts w al nl cl lots) (hk : okR vs s lots = v) (hr : remL vs s lots = r) :
    Calls Try.prog 23 #[.slice a n cap, .int .i64 s, .slice al nl cl] w (Told w r v) := by
  cases v
  · have e : r = [] := by rw [← hr, remL, if_neg (by rw [hk]; decide)]
    subst e
    exact implRem_no a n cap vs s al nl cl lots w h hl hk
  · obtain ⟨-, -, -, h5⟩ := (okR_iff vs s lots).1 hk
    have e : nl = n := by have := h.1; have := hl.1; omega
    subst e
    rw [remL, if_pos hk] at hr
    exact implRem_yes a nl cap vs s al cl lots r w h hl hk hr

end Go.Proofs.Ytbcemgmfkddafaa
