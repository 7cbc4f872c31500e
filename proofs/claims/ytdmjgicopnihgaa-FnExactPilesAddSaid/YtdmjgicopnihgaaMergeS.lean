/-
  spec.PilesMerge, spec.l3Total, spec.PilesTotal: for lists of piles with texts of at most 1048600 bytes; what PilesMerge returns is memory of its own.
-/
import Derived.Test.YtdmjgicopnihgaaAddS
import Derived.Test.YtdmjgicopnihgaaMapP
import Derived.StillTailTactics
import Derived.Maps.RangeWalk
namespace Go.Proofs.Ytdmjgicopnihgaa
open Go.RowKit

theorem mAt_merge {xs ys : List Pl} (ha : pilesB xs = true) (hb : ∀ p ∈ ys, 1 ≤ p.2 ∧ p.2 ≤ 99) (hl : ys.length ≤ 100) (i : Nat) : 0 ≤ mAt (mergeL xs ys) i ∧ mAt (mergeL xs ys) i ≤ 1000000 := by
  have hp := pilesB_pos ha
  unfold mAt
  cases e : (mergeL xs ys)[i]? with
  | none => simp
  | some q =>
    have hq := List.mem_of_getElem? e
    have h1 := tot_mem (asc_merge hp.1 ys) q hq
    have h2 := tot_merge xs ys q.1
    have h3 := tot_bound (ps := xs) (fun p hm => ⟨by have := hp.2.1 p hm; omega, hp.2.2.1 p hm⟩) q.1
    have h4 := tot_bound (ps := ys) (fun p hm => ⟨by have := hb p hm; omega, (hb p hm).2⟩) q.1
    have h5 := hp.2.2.2.2
    simp only [Option.getD_some]
    omega
theorem Small.merge {xs ys : List Pl} (ha : Small xs) (hb : Small ys) : Small (mergeL xs ys) := Small.of fun q hq => by
  have mem : ∀ {ps : List Pl}, Small ps → ∀ p ∈ ps, p.1.size ≤ 1048600 := fun {ps} h p hp => by
    obtain ⟨i, hi, rfl⟩ := List.mem_iff_getElem.1 hp
    have := h i
    unfold tAt at this
    simpa [hi] using this
  rcases merge_texts q hq with ⟨p, hp, e⟩ | ⟨p, hp, e⟩
  · rw [← e]; exact mem ha p hp
  · rw [← e]; exact mem hb p hp
theorem Small.take {ps : List Pl} (h : Small ps) (k : Nat) : Small (ps.take k) := Small.of fun q hq => by
  obtain ⟨i, hi, e⟩ := List.mem_iff_getElem.1 (List.mem_of_mem_take hq)
  have := h i
  unfold tAt at this
  rw [← e]
  simpa [hi] using this
theorem take_one {ps : List Pl} {k : Nat} (h : k < ps.length) : ps.take (k + 1) = ps.take k ++ [(tAt ps k, mAt ps k)] := by
  have e : (tAt ps k, mAt ps k) = ps[k] := by simp [tAt, mAt, h]
  rw [e, List.take_succ_eq_append_getElem h]
theorem merge_step {xs ps : List Pl} {k : Nat} (h : k < ps.length) : putL (mergeL xs (ps.take k)) (tAt ps k) (mAt ps k) = mergeL xs (ps.take (k + 1)) := by rw [take_one h, mergeL_snoc]
theorem mem_valid {ps : List Pl} (h : pilesB ps = true) : ∀ p ∈ ps, 1 ≤ p.2 ∧ p.2 ≤ 99 := fun p hp => ⟨(pilesB_pos h).2.1 p hp, (pilesB_pos h).2.2.1 p hp⟩
theorem IsPiles.piles {w : World} {a : Option Addr} {len cap : Nat} {ps : List Pl} (h : IsPiles w a len cap ps) {k : Nat} (hk : k < len) : ∃ b off, a = some ⟨b, off, none⟩ ∧ b < w.heap.size ∧ w.cell? ⟨b, off + k * 2, none⟩ = some (.string (tAt ps k)) ∧ w.cell? ⟨b, off + k * 2 + 1, none⟩ = some (.int .i64 (mAt ps k)) := by
  obtain ⟨b, off, e, hb, hc⟩ := h.2.2.2 (by omega)
  exact ⟨b, off, e, hb, hc k hk⟩

theorem not_nil {w : World} {base n size : Nat} {e : TypeId} {v : Value} {xs : List Value} (h : w.ownsRow base e size v n xs) (hn : v ≠ .slice none 0 0) : ∃ g c, v = .slice (some ⟨g, 0, none⟩) n c := by
  rcases h.2 with ⟨e0, _⟩ | ⟨g, c, _, e, _⟩
  · exact absurd e0 hn
  · exact ⟨g, c, e⟩

set_option maxRecDepth 100000 in
set_option maxHeartbeats 4000000 in
/-- **spec.PilesMerge** answers as joinL does. -/
theorem specMerge_as (b off la ca : Nat) (xs : List Pl) (b2 : Option Addr) (lb cb : Nat) (ys : List Pl) (r : List Pl) (ok : Bool) (w : World) (h : IsPiles w (some ⟨b, off, none⟩) la ca xs) (hbl : b < w.heap.size) (hs : Small xs) (h' : IsPiles w b2 lb cb ys) (hs' : Small ys) (hr : joinL xs ys = r) (hok : joinB xs ys = ok) :
    Calls Try.prog 24 #[.slice (some ⟨b, off, none⟩) la ca, .slice b2 lb cb] w (GaveP w r ok) := by
  obtain ⟨i0, hi, hz0, hz1, hz2⟩ := info_parts pile_info
  have HI := Lib.hid h
  have HS := Lib.hid hs
  have HI' := Lib.hid h'
  have HS' := Lib.hid hs'
  have HR := Lib.hid hr
  have HOK := Lib.hid hok
  have H1 := Lib.hid h.1
  have H1' := Lib.hid h'.1
  obtain ⟨G, hG⟩ : ∃ G, w.heap.size = G := ⟨_, rfl⟩
  clear h hs h' hs' hr hok
  cases hv : pilesB xs
  · have e : Hid (ok = false) := by rw [Hid, ← HOK.out, joinB, hv]; rfl
    have e2 : Hid (r = []) := by rw [Hid, ← HR.out, joinL, HOK.out, e.out]; rfl
    have HV := Lib.hid hv; clear hv
    go_enter Try.func24, Try.ntmps24
    go_wp2_with fail
    refine (specPiles_as _ la ca xs false _ HI.out HS.out HV.out).mono ?_
    rintro e1 w1 ⟨rfl, hb1⟩
    have hsz := hb1.size
    go_wp2
    go_ret2
    refine ⟨some ⟨w1.heap.size, 0, none⟩, 0, ?_, ?_, hb1.alloc hsz _, fun _ => ⟨_, rfl⟩⟩
    · rw [e.out, e2.out]; rfl
    · rw [e2.out]; exact empty_lit w1 _ _ hsz
  · have HV := Lib.hid hv
    cases hp : pilesB ys
    · have e : Hid (ok = false) := by rw [Hid, ← HOK.out, joinB, hv, hp]; rfl
      have e2 : Hid (r = []) := by rw [Hid, ← HR.out, joinL, HOK.out, e.out]; rfl
      have HPB := Lib.hid hp; clear hv hp
      go_enter Try.func24, Try.ntmps24
      go_wp2_with fail
      refine (specPiles_as _ la ca xs true _ HI.out HS.out HV.out).mono ?_
      rintro e1 w1 ⟨rfl, hb1⟩
      go_wp2_with fail
      refine (specPiles_as _ lb cb ys false _ (HI'.out.below hb1) HS'.out HPB.out).mono ?_
      rintro e1 w2 ⟨rfl, hb2⟩
      have hB2 := hb1.trans (hb2.mono hb1.size)
      have hsz := hB2.size
      go_wp2
      go_ret2
      refine ⟨some ⟨w2.heap.size, 0, none⟩, 0, ?_, ?_, hB2.alloc hsz _, fun _ => ⟨_, rfl⟩⟩
      · rw [e.out, e2.out]; rfl
      · rw [e2.out]; exact empty_lit w2 _ _ hsz
    · have HPB := Lib.hid hp
      have hla : la ≤ 12 := by have := (pilesB_pos hv).2.2.2.2; rw [H1.out] at this; exact this
      have hlb : lb ≤ 12 := by have := (pilesB_pos hp).2.2.2.2; rw [H1'.out] at this; exact this
      have HMV := Lib.hid (mem_valid hp)
      have HMB := Lib.hid (mAt_valid hp)
      obtain ⟨r2, hr2⟩ : ∃ r2, mergeL xs ys = r2 := ⟨_, rfl⟩
      obtain ⟨v2, hv2⟩ : ∃ v2, pilesB r2 = v2 := ⟨_, rfl⟩
      have HR2 := Lib.hid hr2
      have HV2 := Lib.hid hv2
      have e : Hid (ok = v2) := by rw [Hid, ← HOK.out, joinB, hv, hp, hr2, hv2]; rfl
      have hl2 : r2.length ≤ 24 := by have := (merge_longer xs ys).2; rw [hr2, H1.out, H1'.out] at this; omega
      have HS2 : Hid (Small r2) := by rw [← hr2]; exact HS.out.merge HS'.out
      clear hv hp hr2 hv2
      have LP : Hid ((cellsP xs).length = la * 2) := by unfold Hid; rw [cellsP_length, H1.out]
      have MA : 0 + la ≤ maxLen := by unfold maxLen; omega
      have NA : (0 + la) * 24 ≤ 140737488355328 := by omega
      go_enter Try.func24, Try.ntmps24
      go_wp2_with fail
      refine (specPiles_as _ la ca xs true _ HI.out HS.out HV.out).mono ?_
      rintro e1 w1 ⟨rfl, hb1⟩
      have I1 := Lib.hid (HI.out.below hb1)
      have hbl1 : b < w1.heap.size := Nat.lt_of_lt_of_le hbl hb1.size
      have B1 := Lib.hid hb1; clear hb1
      go_wp2_with fail
      refine (specPiles_as _ lb cb ys true _ (HI'.out.below B1.out) HS'.out HPB.out).mono ?_
      rintro e1 w2 ⟨rfl, hb2⟩
      have I2 := Lib.hid (I1.out.below hb2)
      have hbl2 : b < w2.heap.size := Nat.lt_of_lt_of_le hbl1 hb2.size
      have B2 := Lib.hid (B1.out.trans (hb2.mono B1.out.size)); clear hb2 B1 I1
      have S2 := B2.out.size
      have hE0 := Lib.hid (empty_lit w2 37 w.heap.size S2)
      have BW0 : Below w.heap.size w (w2.alloc (.cells #[] 37)) := B2.out.alloc S2 _
      have SA := BW0.size
      have PA0 : Hid (∀ j u, (cellsP xs)[j]? = some u → (w2.alloc (.cells #[] 37)).cell? ((⟨b, off, none⟩ : Addr).add j) = some u) := part_cells I2.out fun j _ => ((Below.refl w2.heap.size w2).alloc (Nat.le_refl _) _).cell (p := ⟨b, off + j, none⟩) hbl2
      have hout : ∃ g4 c4 w4, True := ⟨0, 0, w2, trivial⟩
      clear hout
      go_wp2_with (first | (at_builtin; refine wpList_append_own _ rfl _ _ 23 rfl w.heap.size 37 i0 (.agg #[.string ⟨#[]⟩, .int .i64 0]) 2 24 Try.underlying23 hi hz0 hz1 hz2 rfl Nat.two_pos _ _ _ rfl hE0.out ⟨b, off, none⟩ la _ (cellsP xs) rfl LP.out PA0.out (cellsP_one' _) MA NA SA ?_; intro v4 w4 hown4 hgrow4 hnil4; simp only [Nat.zero_add, List.nil_append] at hown4; have B4 : Hid (Below w.heap.size w w4) := BW0.grown hgrow4 BW0.size (fun j ej => own_ge ej S2); have N4 : Hid (∃ g c, v4 = .slice (some ⟨g, 0, none⟩) la c) := not_nil hown4 (fun hh => by cases (hnil4.1 hh).1); have O4 := Lib.hid hown4; clear hown4 hgrow4 hnil4; go_frame) | go_in)
      go_loopw [6, 7] (fun v i wr => ∃ k : Nat, k ≤ lb ∧ i = .int .i64 k ∧ (∃ g c, v = .slice (some ⟨g, 0, none⟩) (mergeL xs (ys.take k)).length c ∧ Hid (wr.ownsRow G 37 2 (.slice (some ⟨g, 0, none⟩) (mergeL xs (ys.take k)).length c) (mergeL xs (ys.take k)).length (cellsP (mergeL xs (ys.take k))))) ∧ Below G w wr) (fun _ i _ => lb - (intOf i).toNat)
      case atStart =>
        obtain ⟨g4, c4, e4⟩ := N4.out
        refine ⟨0, Nat.zero_le _, rfl, ⟨g4, c4, ?_, ?_⟩, hG ▸ B4.out⟩
        · show v4 = .slice _ xs.length c4
          rw [H1.out]; exact e4
        · show Hid (w4.ownsRow G _ 2 (.slice (some ⟨g4, 0, none⟩) xs.length c4) xs.length (cellsP xs))
          unfold Hid
          rw [H1.out, ← e4, ← hG]; exact O4.out
      case round =>
        obtain ⟨k, hk, rfl, ⟨g, c, rfl, ho⟩, hB⟩ := hrel
        obtain ⟨cu, hcu⟩ : ∃ cu, mergeL xs (ys.take k) = cu := ⟨_, rfl⟩
        have hcl : cu.length ≤ 24 := by have := (merge_longer xs (ys.take k)).2; rw [hcu, H1.out, List.length_take, H1'.out] at this; omega
        have HSC : Hid (Small cu) := by rw [← hcu]; exact HS.out.merge (HS'.out.take k)
        have HMC : Hid (∀ i, 0 ≤ mAt cu i ∧ mAt cu i ≤ 1000000) := by rw [← hcu]; exact mAt_merge HV.out (fun p hp => HMV.out p (List.mem_of_mem_take hp)) (by rw [List.length_take, H1'.out]; omega)
        have hBw : Below w.heap.size w wr := hG.symm ▸ hB
        by_cases hlt : k < lb
        · obtain ⟨b', off', rfl, hb', c0, c1⟩ := (HI'.out.below hBw).piles hlt
          obtain ⟨t, ht⟩ : ∃ t, tAt ys k = t := ⟨_, rfl⟩
          obtain ⟨m, hm⟩ : ∃ m, mAt ys k = m := ⟨_, rfl⟩
          obtain ⟨nx, hnx⟩ : ∃ nx, mergeL xs (ys.take (k + 1)) = nx := ⟨_, rfl⟩
          have HN : Hid (putL cu t m = nx) := by rw [Hid, ← hcu, ← ht, ← hm, ← hnx]; exact merge_step (by rw [H1'.out]; exact hlt)
          have hm1 : 0 ≤ m ∧ m ≤ 1000000 := by rw [← hm]; exact mAt_wide HMB.out k
          have HNX := Lib.hid hnx
          rw [ht] at c0
          rw [hm] at c1
          rw [hcu] at ho ⊢
          clear ht hm hnx hcu
          have OD : Hid (wr.drew.ownsRow G 37 2 (.slice (some ⟨g, 0, none⟩) cu.length c) cu.length (cellsP cu)) := ho.out.drew
          have BD := Lib.hid hB.drew
          have hgd : g < wr.drew.heap.size := (OD.out.lt g rfl).2
          go_wp2_with fail
          go_still_tail 11, (by kernel_rfl)
          change wpList _ _ _ _ _ wr.drew
          generalize wr.drew = w5 at OD BD hgd ⊢
          go_wp2_with fail
          refine (l3Put_any g 0 cu.length c cu t m _ (IsPiles.of_owned OD.out (by omega)) hgd (by omega) HMC.out hm1).mono ?_
          rintro e1 w6 ⟨g6, c6, he, ho6, hb6⟩
          rw [HN.out] at he ho6
          subst he
          have hGw : G ≤ w5.heap.size := by have := BD.out.size; rw [hG] at this; exact this
          have B6 := Lib.hid (BD.out.trans (hb6.mono hGw))
          have O6 := Lib.hid (ho6.mono hGw)
          clear ho6 hb6
          go_wp2
          go_roundw
          case rel => exact ⟨k + 1, by omega, by go_num, ⟨g6, c6, by rw [HNX.out], by rw [HNX.out]; exact O6⟩, B6.out⟩
          case measure => simp [intOf]; omega
        · obtain rfl : k = lb := by omega
          have hall : mergeL xs (ys.take k) = r2 := by rw [List.take_of_length_le (by rw [H1'.out]; omega)]; exact HR2.out
          rw [hall] at ho ⊢
          clear hcu hall
          go_wp2_with fail
          refine (specPiles_as _ _ _ r2 v2 _ (IsPiles.of_owned ho.out (by omega)) HS2.out HV2.out).mono ?_
          rintro e1 w7 ⟨rfl, hb7⟩
          have O7 := Lib.hid (owns_below ho.out hb7)
          have B7 : Hid (Below w.heap.size w w7) := hBw.trans (hb7.mono hBw.size)
          clear hb7
          cases v2
          · have e2 : Hid (r = []) := by rw [Hid, ← HR.out, joinL, HOK.out, e.out]; rfl
            have hsz := B7.out.size
            go_wp2
            go_ret2
            refine ⟨some ⟨w7.heap.size, 0, none⟩, 0, ?_, ?_, B7.out.alloc hsz _, fun _ => ⟨_, rfl⟩⟩
            · rw [e.out, e2.out]; rfl
            · rw [e2.out]; exact empty_lit w7 _ _ hsz
          · have e2 : Hid (r = r2) := by rw [Hid, ← HR.out, joinL, HOK.out, e.out, HR2.out]; rfl
            go_wp2
            go_ret2
            refine ⟨some ⟨g, 0, none⟩, c, ?_, ?_, B7.out, fun _ => ⟨_, rfl⟩⟩
            · rw [e.out, e2.out]; rfl
            · rw [e2.out, hG]; exact O7.out

end Go.Proofs.Ytdmjgicopnihgaa
