/-
  impl.PilesMerge and impl.PilesAdd: for lists of piles with texts of at most 1048600 bytes; what they return is memory of their own.
-/
import Derived.Test.YtdmjgicopnihgaaSorted
import Derived.Test.YtdmjgicopnihgaaTotS
import Derived.Maps.OwnOps
namespace Go.Proofs.Ytdmjgicopnihgaa
open Go.RowKit Go.Maps

theorem zeroE (w : World) : (zeroValue 3).run Try.prog w = .ok (.int .i64 0) w := by kernel_rfl
theorem merged_eq {ts xs ys : List Pl} (h : Asc ts ∧ (∀ u, tot ts u = tot (xs ++ ys) u) ∧ ∀ q ∈ ts, ∃ p ∈ xs ++ ys, p.1 = q.1) (hx : pilesB xs = true) (hy : pilesB ys = true) : ts = mergeL xs ys := by
  have px := pilesB_pos hx
  have py := pilesB_pos hy
  refine piles_ext h.1 (asc_merge px.1 _) (fun q hq => ?_) (pos_merge px.2.1 py.2.1) (fun u => by rw [h.2.1, tot_app, tot_merge])
  rw [← tot_mem h.1 q hq, h.2.1]
  refine tot_pos (fun p hp => ?_) (h.2.2 q hq)
  rcases List.mem_append.1 hp with hp | hp
  · exact px.2.1 p hp
  · exact py.2.1 p hp
/-- The piles before list number r, of two. -/
def before2 (xs : List Pl) (r : Nat) (ys : List Pl) : List Pl := if r = 0 then [] else if r = 1 then xs else xs ++ ys
theorem tot_small {xs ys : List Pl} {r j : Nat} {zs : List Pl} (hx : pilesB xs = true) (hy : pilesB ys = true) (hz : zs = xs ∨ zs = ys) (u : ByteArray) : 0 ≤ tot (before2 xs r ys ++ zs.take j) u ∧ tot (before2 xs r ys ++ zs.take j) u ≤ 1000000 := by
  have px := pilesB_pos hx
  have py := pilesB_pos hy
  have hin : ∀ p ∈ before2 xs r ys, p ∈ xs ∨ p ∈ ys := fun p hp => by
    unfold before2 at hp
    split at hp
    · cases hp
    · split at hp
      · exact .inl hp
      · exact List.mem_append.1 hp
  have hz1 : ∀ p ∈ zs.take j, p ∈ xs ∨ p ∈ ys := fun p hp => by
    have := List.mem_of_mem_take hp
    rcases hz with e | e
    · rw [e] at this; exact .inl this
    · rw [e] at this; exact .inr this
  have hm : ∀ p ∈ before2 xs r ys ++ zs.take j, 0 ≤ p.2 ∧ p.2 ≤ 99 := fun p hp => by
    have : p ∈ xs ∨ p ∈ ys := (List.mem_append.1 hp).elim (hin p) (hz1 p)
    rcases this with h | h
    · have h1 := px.2.1 p h; have h2 := px.2.2.1 p h; omega
    · have h1 := py.2.1 p h; have h2 := py.2.2.1 p h; omega
  have hb := tot_bound hm u
  have h1 := px.2.2.2.2
  have h2 := py.2.2.2.2
  have h3 : (zs.take j).length ≤ 12 := by
    rw [List.length_take]
    rcases hz with e | e <;> rw [e] <;> omega
  have h4 : (before2 xs r ys).length ≤ 24 := by
    unfold before2
    split
    · simp
    · split
      · omega
      · rw [List.length_append]; omega
  rw [List.length_append] at hb
  omega

theorem look_eq {D : DataW Unit} {ps : List Pl} {t : ByteArray} {s c : Int} (hM : MapIs D ps) (hs : tot ps t = s) (hat : D.atKey (.string t.data.toList) (.lit (.int .i64 0)) = .lit (.int .i64 c)) : c = s := by
  have h1 : D.atKey (kT t) (iL 0) = iL c := hat
  rw [hM.2 t, hs] at h1
  injection h1 with h1
  injection h1 with _ h1
  exact h1.symm

set_option maxRecDepth 100000 in
set_option maxHeartbeats 8000000 in
/-- **impl.PilesMerge** answers as joinL does. -/
theorem implMerge_as (a1 : Option Addr) (la ca : Nat) (xs : List Pl) (a2 : Option Addr) (lb cb : Nat) (ys : List Pl) (r : List Pl) (ok : Bool) (w : World) (h : IsPiles w a1 la ca xs) (hs : Small xs) (h' : IsPiles w a2 lb cb ys) (hs' : Small ys) (hr : joinL xs ys = r) (hok : joinB xs ys = ok) :
    Calls Try.prog 23 #[.slice a1 la ca, .slice a2 lb cb] w (GaveP w r ok) := by
  have HI := Lib.hid h
  have HS := Lib.hid hs
  have HI' := Lib.hid h'
  have HS' := Lib.hid hs'
  have HR := Lib.hid hr
  have HOK := Lib.hid hok
  have H1 := Lib.hid h.1
  have H1' := Lib.hid h'.1
  obtain ⟨G, hG⟩ : ∃ G, w.heap.size = G := ⟨_, rfl⟩
  clear h hs h' hs' hr hok
  cases hv : pilesB xs
  · have e : Hid (ok = false) := by rw [Hid, ← HOK.out, joinB, hv]; rfl
    have e2 : Hid (r = []) := by rw [Hid, ← HR.out, joinL, HOK.out, e.out]; rfl
    have HV := Lib.hid hv; clear hv
    go_enter Try.func23, Try.ntmps23
    go_wp2_with fail
    refine (implPiles_as _ la ca xs false _ HI.out HS.out HV.out).mono ?_
    rintro e1 w1 ⟨rfl, hb1⟩
    go_wp2
    go_ret2
    refine ⟨none, 0, by rw [e.out, e2.out]; rfl, by rw [e2.out]; exact World.ownsRow_nil _ _ _ _, hb1, fun hh => by rw [e.out] at hh; cases hh⟩
  · have HV := Lib.hid hv
    cases hp : pilesB ys
    · have e : Hid (ok = false) := by rw [Hid, ← HOK.out, joinB, hv, hp]; rfl
      have e2 : Hid (r = []) := by rw [Hid, ← HR.out, joinL, HOK.out, e.out]; rfl
      have HPB := Lib.hid hp; clear hv hp
      go_enter Try.func23, Try.ntmps23
      go_wp2_with fail
      refine (implPiles_as _ la ca xs true _ HI.out HS.out HV.out).mono ?_
      rintro e1 w1 ⟨rfl, hb1⟩
      go_wp2_with fail
      refine (implPiles_as _ lb cb ys false _ (HI'.out.below hb1) HS'.out HPB.out).mono ?_
      rintro e1 w2 ⟨rfl, hb2⟩
      have hB2 := hb1.trans (hb2.mono hb1.size)
      go_wp2
      go_ret2
      refine ⟨none, 0, by rw [e.out, e2.out]; rfl, by rw [e2.out]; exact World.ownsRow_nil _ _ _ _, hB2, fun hh => by rw [e.out] at hh; cases hh⟩
    · have HPB := Lib.hid hp
      have hla : la ≤ 12 := by have := (pilesB_pos hv).2.2.2.2; rw [H1.out] at this; exact this
      have hlb : lb ≤ 12 := by have := (pilesB_pos hp).2.2.2.2; rw [H1'.out] at this; exact this
      obtain ⟨r2, hr2⟩ : ∃ r2, mergeL xs ys = r2 := ⟨_, rfl⟩
      obtain ⟨v2, hv2⟩ : ∃ v2, pilesB r2 = v2 := ⟨_, rfl⟩
      have HR2 := Lib.hid hr2
      have HV2 := Lib.hid hv2
      have e : Hid (ok = v2) := by rw [Hid, ← HOK.out, joinB, hv, hp, hr2, hv2]; rfl
      have HS2 : Hid (Small r2) := by rw [← hr2]; exact HS.out.merge HS'.out
      have hl2 : r2.length ≤ 24 := by have := (merge_longer xs ys).2; rw [hr2, H1.out, H1'.out] at this; omega
      clear hv hp hr2 hv2
      have hmm := @run_makeMap Try.prog
      go_enter Try.func23, Try.ntmps23
      go_wp2_with fail
      refine (implPiles_as _ la ca xs true _ HI.out HS.out HV.out).mono ?_
      rintro e1 w1 ⟨rfl, hb1⟩
      have B1 := Lib.hid hb1; clear hb1
      go_wp2_with fail
      refine (implPiles_as _ lb cb ys true _ (HI'.out.below B1.out) HS'.out HPB.out).mono ?_
      rintro e1 w2 ⟨rfl, hb2⟩
      have B2 := Lib.hid (B1.out.trans (hb2.mono B1.out.size)); clear hb2 B1
      have S2 := B2.out.size
      have HM0 := Lib.hid (World.ownsMap_made w2 Try.prog 9 (plainElem (H := Unit) Try.prog 3))
      obtain ⟨W2, hW2⟩ : ∃ W2, (w2.alloc (.map #[] 0)).alloc (.cells #[.slice a1 la ca, .slice a2 lb cb] 23) = W2 := ⟨_, rfl⟩
      obtain ⟨M, hMb⟩ : ∃ M, w2.heap.size = M := ⟨_, rfl⟩
      have HM2 : Hid (W2.ownsMap Try.prog 9 (plainElem (H := Unit) Try.prog 3) M 0 (.map [])) := by rw [← hW2, ← hMb]; exact HM0.out.alloc _
      have R0 : Hid (W2.cell? ⟨M + 1, 0, none⟩ = some (.slice a1 la ca)) := by
        have := World.cell?_alloc_new (w2.alloc (.map #[] 0)) #[.slice a1 la ca, .slice a2 lb cb] 23 0
        rw [World.size_alloc, hMb] at this; rw [← hW2]; exact this
      have R1 : Hid (W2.cell? ⟨M + 1, 1, none⟩ = some (.slice a2 lb cb)) := by
        have := World.cell?_alloc_new (w2.alloc (.map #[] 0)) #[.slice a1 la ca, .slice a2 lb cb] 23 1
        rw [World.size_alloc, hMb] at this; rw [← hW2]; exact this
      have hGM : G ≤ M := by rw [← hMb, ← hG]; exact S2
      have BW2 : Hid (Below G w W2) := by rw [← hW2, ← hG]; exact (B2.out.alloc S2 _).alloc (by simp; omega) _
      have SW2 : Hid (M + 1 < W2.heap.size) := by rw [Hid, ← hW2, ← hMb]; simp
      go_wp2
      clear hW2 S2 B2 HM0
      go_loopw [25] (fun i wr => ∃ q : Nat, q ≤ 2 ∧ i = .int .i64 q ∧ (∃ D : DataW Unit, wr.ownsMap Try.prog 9 (plainElem (H := Unit) Try.prog 3) M (12 * q) D ∧ MapIs D (before2 xs q ys)) ∧
          Hid (wr.cell? ⟨M + 1, 0, none⟩ = some (.slice a1 la ca)) ∧ Hid (wr.cell? ⟨M + 1, 1, none⟩ = some (.slice a2 lb cb)) ∧ M + 1 < wr.heap.size ∧ Below G w wr) (fun i _ => 2 - (intOf i).toNat)
      case atStart => exact ⟨0, by omega, rfl, ⟨_, HM2.out, mapIs_start⟩, R0, R1, SW2.out, BW2.out⟩
      case round =>
        obtain ⟨q, hq, rfl, ⟨D, hown, hMI⟩, r0, r1, hsz, hB⟩ := hrel
        by_cases hq2 : q < 2
        · obtain ⟨ad, l, cp, zs, hcell, hI, hl12, hz, hnext⟩ : ∃ (ad : Option Addr) (l cp : Nat) (zs : List Pl), wr.cell? ⟨M + 1, q, none⟩ = some (.slice ad l cp) ∧ Hid (IsPiles w ad l cp zs) ∧ l ≤ 12 ∧ Hid (Small zs ∧ pilesB zs = true ∧ (zs = xs ∨ zs = ys)) ∧ Hid (before2 xs q ys ++ zs = before2 xs (q + 1) ys) := by
            rcases Nat.eq_zero_or_pos q with e0 | e0
            · subst e0
              exact ⟨a1, la, ca, xs, r0.out, HI, hla, ⟨HS.out, HV.out, .inl rfl⟩, rfl⟩
            · obtain rfl : q = 1 := by omega
              exact ⟨a2, lb, cb, ys, r1.out, HI', hlb, ⟨HS'.out, HPB.out, .inr rfl⟩, rfl⟩
          have hqi : (q : Int) < 2 := by omega
          obtain ⟨pre, hpre⟩ : ∃ pre, before2 xs q ys = pre := ⟨_, rfl⟩
          have TS : Hid (∀ j u, 0 ≤ tot (pre ++ zs.take j) u ∧ tot (pre ++ zs.take j) u ≤ 1000000) := by rw [← hpre]; exact fun j u => tot_small HV.out HPB.out hz.out.2.2 u
          rw [hpre] at hMI
          have HPRE := Lib.hid hpre
          have HMI := Lib.hid hMI
          have HOWN := Lib.hid hown
          have HZ1 := Lib.hid hI.out.1
          have HMZ := Lib.hid (mAt_valid hz.out.2.1)
          clear hpre hMI hown
          go_wp2
          go_loopw [31] (fun i wi => ∃ j : Nat, j ≤ l ∧ i = .int .i64 j ∧ (∃ D : DataW Unit, wi.ownsMap Try.prog 9 (plainElem (H := Unit) Try.prog 3) M (12 * q + j) D ∧ MapIs D (pre ++ zs.take j)) ∧
              Hid (wi.cell? ⟨M + 1, 0, none⟩ = some (.slice a1 la ca)) ∧ Hid (wi.cell? ⟨M + 1, 1, none⟩ = some (.slice a2 lb cb)) ∧ M + 1 < wi.heap.size ∧ Below G w wi) (fun i _ => l - (intOf i).toNat)
          case atStart => exact ⟨0, by omega, rfl, ⟨D, HOWN.out, by rw [List.take_zero, List.append_nil]; exact HMI.out⟩, r0, r1, hsz, hB⟩
          case round =>
            obtain ⟨j, hj, rfl, ⟨D1, hown1, hM1⟩, r0', r1', hsz', hB'⟩ := hrel
            have hBw : Below w.heap.size w wr := hG.symm ▸ hB'
            by_cases hlt : j < l
            · obtain ⟨b', off', rfl, hb', c0, c1⟩ := (hI.out.below hBw).piles hlt
              obtain ⟨t, ht⟩ : ∃ t, tAt zs j = t := ⟨_, rfl⟩
              obtain ⟨m, hm⟩ : ∃ m, mAt zs j = m := ⟨_, rfl⟩
              obtain ⟨s, hs0⟩ : ∃ s, tot (pre ++ zs.take j) t = s := ⟨_, rfl⟩
              have hmb := HMZ.out j
              have hsb := TS.out j t
              have hst := hz.out.1 j
              have htk := take_one (ps := zs) (k := j) (by rw [HZ1.out]; exact hlt)
              rw [hs0] at hsb
              rw [hm] at c1 hmb htk
              rw [ht] at c0 hst htk
              have hts : t.size ≤ maxLen := by unfold maxLen; omega
              have hstep := mapIs_step hM1 (hown1.tidy lawS).isMap t m
              rw [hs0, List.append_assoc, ← htk] at hstep
              have HST := Lib.hid hstep
              have HM1 := Lib.hid hM1
              have HS0 := Lib.hid hs0
              clear ht hm hs0 htk hstep hM1
              have hw1 : IntKind.i64.wrap (s + m) = s + m := IntWalk.i64_in _ (by omega)
              have WF : (Lit.int .i64 (s + m)).wf = true := WalkArith.wf_i64 (by omega)
              have hnb : 12 * q + j < maxLen := by unfold maxLen; omega
              have hMn : M < wr.heap.size := by omega
              go_wp2_with (first
                | (at_lookup; refine wpList_lookup_own_int _ rfl _ _ 61 rfl 9 3 .i64 lawS Try.underlying61 Try.underlying3 (zeroE _) M (12 * q + j) D1 rfl (hown1.alloc _) _ _ rfl (Go.WideMaps.keyOf_string_mk Try.underlying9 hts) ?_; intro c hat hwc; obtain rfl := look_eq HM1.out HS0.out hat)
                | (at_mapUpdate; refine wpList_mapUpdate_own _ rfl _ _ _ 61 rfl 9 3 lawS Try.underlying61 _ M (12 * q + j) _ rfl (hown1.alloc _) hnb _ _ _ rfl rfl (Go.WideMaps.keyOf_string_mk Try.underlying9 hts) _ [] (plainElem_int Try.underlying3 WF) ?_; intro w5 hown5 hgr5; go_frame)
                | go_in)
              have A5 : wr.grownBy w5 (some M) := (World.grownBy_alloc wr _ _).trans hgr5
              go_roundw
              case rel =>
                refine ⟨j + 1, by omega, by go_num, ⟨_, hown5, HST.out⟩, ?_, ?_, Nat.lt_of_lt_of_le hsz' A5.size, ?_⟩
                · exact (World.cell?_of_block (a := ⟨M + 1, 0, none⟩) (A5.block (M + 1) hsz' (by simp))).trans r0'.out
                · exact (World.cell?_of_block (a := ⟨M + 1, 1, none⟩) (A5.block (M + 1) hsz' (by simp))).trans r1'.out
                · exact hB'.grown A5 (hG ▸ hBw.size) (fun i ei => by cases ei; exact hGM)
              case measure => simp [intOf]; omega
            · obtain rfl : j = l := by omega
              have hall : pre ++ zs.take j = before2 xs (q + 1) ys := by rw [List.take_of_length_le (by rw [HZ1.out]; omega), ← HPRE.out]; exact hnext.out
              rw [hall] at hM1
              have HM1 := Lib.hid hM1
              have HO1 := Lib.hid (hown1.mono (show 12 * q + j ≤ 12 * (q + 1) by omega))
              clear hall hM1 hown1
              go_wp2
              go_roundw
              case rel => exact ⟨q + 1, by omega, by go_num, ⟨_, HO1.out, HM1.out⟩, r0', r1', hsz', hB'⟩
              case measure => simp [intOf]; omega
        · obtain rfl : q = 2 := by omega
          have hBw : Below w.heap.size w wr := hG.symm ▸ hB
          have HC := Lib.hid (sortedPiles_any M (12 * 2) D (xs ++ ys) wr hown hMI (by omega))
          clear hown hMI
          go_wp2_with fail
          refine HC.out.mono ?_
          rintro e1 w6 ⟨ts, g, cap, he, hfacts, hl, ho6, hb6⟩
          have hts : ts = r2 := (merged_eq hfacts HV.out HPB.out).trans HR2.out
          subst hts
          subst he
          have B6 := Lib.hid (hBw.trans (hb6.mono hBw.size))
          have O6 := Lib.hid (ho6.mono hBw.size)
          clear hfacts ho6 hb6 HC
          go_wp2_with fail
          refine (implPiles_as _ _ _ ts v2 _ (IsPiles.of_owned O6.out (by omega)) HS2.out HV2.out).mono ?_
          rintro e1 w7 ⟨rfl, hb7⟩
          have O7 := Lib.hid (owns_below O6.out hb7)
          have B7 := Lib.hid (B6.out.trans (hb7.mono B6.out.size))
          clear hb7
          cases v2
          · have e2 : Hid (r = []) := by rw [Hid, ← HR.out, joinL, HOK.out, e.out]; rfl
            go_wp2
            go_ret2
            refine ⟨none, 0, by rw [e.out, e2.out]; rfl, by rw [e2.out]; exact World.ownsRow_nil _ _ _ _, B7.out, fun hh => by rw [e.out] at hh; cases hh⟩
          · have e2 : Hid (r = ts) := by rw [Hid, ← HR.out, joinL, HOK.out, e.out, HR2.out]; rfl
            go_wp2
            go_ret2
            refine ⟨some ⟨g, 0, none⟩, cap, ?_, ?_, B7.out, fun _ => ⟨_, rfl⟩⟩
            · rw [e.out, e2.out]; rfl
            · rw [e2.out]; exact O7.out

end Go.Proofs.Ytdmjgicopnihgaa
