/-
  spec.l3Turn and spec.PilesTurn: for lists of piles with texts of at most 1048600 bytes; what they return is memory of their own.
-/
import Derived.Test.YtdmjgicopnihgaaMergeS
import Derived.Test.YtdmjgicopnihgaaTurnI
import Derived.Deep.RegionWith
namespace Go.Proofs.Ytdmjgicopnihgaa
open Go.RowKit

theorem l6In_as (n lo hi : Int) (v : Bool) (w : World) (h : inB n lo hi = v) :
    Calls Try.prog 48 #[.int .i64 n, .int .i64 lo, .int .i64 hi] w fun e w' => e = .returned (.bool v) ∧ w = w' := by subst h; exact l6In_any n lo hi w
theorem turn_take {x y : Int} {zs : List Int} {k : Nat} (hk : k < zs.length) {z : Int} (hz : zs[k]?.getD 0 = z) : turnB x y (zs.take (k + 1)) = turnB x y (zs.take k) ++ [swapC x y z] := by
  have e : zs[k] = z := by rw [← hz]; simp [hk]
  rw [List.take_succ_eq_append_getElem hk, e]
  simp [turnB]
theorem ints_snoc (a : List Int) (z : Int) : (a ++ [z]).map (Value.int .i64) = a.map (Value.int .i64) ++ [.int .i64 z] := by simp

set_option maxRecDepth 100000 in
set_option maxHeartbeats 4000000 in
/-- **spec.l3Turn**. -/
theorem l3Turn_any (a : Option Addr) (len cap : Nat) (zs : List Int) (x y : Int) (w : World) (h : IsInts w a len cap zs) (hl : len ≤ 1000) :
    Calls Try.prog 50 #[.slice a len cap, .int .i64 x, .int .i64 y] w fun e w' => ∃ a' cap', e = .returned (.slice a' len cap') ∧ w'.ownsRow w.heap.size 3 1 (.slice a' len cap') len ((turnB x y zs).map (Value.int .i64)) ∧ Below w.heap.size w w' := by
  obtain ⟨i0, hi, hz0, hz1, hz2⟩ := info_parts int_info
  have HI := Lib.hid h
  have H1 := Lib.hid h.1
  obtain ⟨G, hG⟩ : ∃ G, w.heap.size = G := ⟨_, rfl⟩
  clear h
  have HE : Hid ((w.alloc (.cells #[] 3)).ownsRow G 3 1 (.slice (some ⟨G, 0, none⟩) 0 0) 0 []) := by
    have := World.ownsRow_lit (base := G) (e := 3) (size := 1) w #[] 0 (by omega) (by unfold maxLen; omega) rfl
    rw [hG] at this
    exact this
  have HB0 : Hid (Below G w (w.alloc (.cells #[] 3))) := by rw [← hG]; exact (Below.refl _ w).alloc (Nat.le_refl _) _
  go_enter Try.func50, Try.ntmps50
  go_wp2
  go_loopw [7, 8] (fun v i wr => ∃ k : Nat, k ≤ len ∧ i = .int .i64 k ∧ Hid (wr.ownsRow G 3 1 v k ((turnB x y (zs.take k)).map (Value.int .i64))) ∧ Below G w wr) (fun _ i _ => len - (intOf i).toNat)
  case atStart => exact ⟨0, Nat.zero_le _, rfl, by rw [List.take_zero]; exact HE, HB0.out⟩
  case round =>
    obtain ⟨k, hk, rfl, ho, hB⟩ := hrel
    have hBw : Below w.heap.size w wr := hG.symm ▸ hB
    have hGw : G ≤ wr.heap.size := by have := hBw.size; rw [hG] at this; exact this
    by_cases hlt : k < len
    · obtain ⟨b, off, rfl, hb, hc⟩ := (HI.out.below hBw).2.2.2 (by omega)
      obtain ⟨z, hz⟩ : ∃ z, zs[k]?.getD 0 = z := ⟨_, rfl⟩
      have c0 := hc k hlt
      rw [hz] at c0
      have HN := Lib.hid (turn_take (x := x) (y := y) (by rw [H1.out]; exact hlt) hz)
      clear hc hz
      have hg3 : k + 1 ≤ maxLen := by unfold maxLen; omega
      have hg4 : (k + 1) * 8 ≤ 140737488355328 := by omega
      have hbs : ∀ u : Int, G ≤ (wr.alloc (.cells #[.int .i64 u] 3)).heap.size := fun u => by simp; omega
      rcases Decidable.em (z = x) with e1 | e1
      · have hw : Hid (swapC x y z = y) := by simp [Hid, swapC, e1]
        have he1 : (z == x) = true := by simp [e1]
        rw [hw.out] at HN
        clear e1 hw
        go_wp2_with (first | (at_builtin; refine wpList_append_own _ rfl _ _ 54 rfl G 3 i0 (.int .i64 0) 1 8 Try.underlying54 hi hz0 hz1 hz2 rfl Nat.one_pos _ _ _ rfl (ho.out.alloc _) ⟨wr.heap.size, 0, none⟩ 1 1 [.int .i64 y] rfl rfl (cell_one_new _ _ _) (by simp [Value.oneCell']) hg3 hg4 (hbs y) ?_; intro v3 w3 hown3 hgrow3 _; have HO3 := Lib.hid hown3; have HB3 : Hid (Below G w w3) := (hB.alloc hGw _).grown hgrow3 (hbs y) (fun j ej => (ho.out.lt j ej).1); clear hown3 hgrow3; go_frame) | go_in)
        go_roundw
        case rel => exact ⟨k + 1, by omega, by go_num, by rw [Hid, HN.out, ints_snoc]; exact HO3.out, HB3.out⟩
        case measure => simp [intOf]; omega
      · have he1 : (z == x) = false := by simp [e1]
        rcases Decidable.em (z = y) with e2 | e2
        · have hw : Hid (swapC x y z = x) := by simp [Hid, swapC, e2]
          have he2 : (z == y) = true := by simp [e2]
          rw [hw.out] at HN
          clear e1 e2 hw
          go_wp2_with (first | (at_builtin; refine wpList_append_own _ rfl _ _ 54 rfl G 3 i0 (.int .i64 0) 1 8 Try.underlying54 hi hz0 hz1 hz2 rfl Nat.one_pos _ _ _ rfl (ho.out.alloc _) ⟨wr.heap.size, 0, none⟩ 1 1 [.int .i64 x] rfl rfl (cell_one_new _ _ _) (by simp [Value.oneCell']) hg3 hg4 (hbs x) ?_; intro v3 w3 hown3 hgrow3 _; have HO3 := Lib.hid hown3; have HB3 : Hid (Below G w w3) := (hB.alloc hGw _).grown hgrow3 (hbs x) (fun j ej => (ho.out.lt j ej).1); clear hown3 hgrow3; go_frame) | go_in)
          go_roundw
          case rel => exact ⟨k + 1, by omega, by go_num, by rw [Hid, HN.out, ints_snoc]; exact HO3.out, HB3.out⟩
          case measure => simp [intOf]; omega
        · have hw : Hid (swapC x y z = z) := by simp [Hid, swapC, e1, e2]
          have he2 : (z == y) = false := by simp [e2]
          rw [hw.out] at HN
          clear e1 e2 hw
          go_wp2_with (first | (at_builtin; refine wpList_append_own _ rfl _ _ 54 rfl G 3 i0 (.int .i64 0) 1 8 Try.underlying54 hi hz0 hz1 hz2 rfl Nat.one_pos _ _ _ rfl (ho.out.alloc _) ⟨wr.heap.size, 0, none⟩ 1 1 [.int .i64 z] rfl rfl (cell_one_new _ _ _) (by simp [Value.oneCell']) hg3 hg4 (hbs z) ?_; intro v3 w3 hown3 hgrow3 _; have HO3 := Lib.hid hown3; have HB3 : Hid (Below G w w3) := (hB.alloc hGw _).grown hgrow3 (hbs z) (fun j ej => (ho.out.lt j ej).1); clear hown3 hgrow3; go_frame) | go_in)
          go_roundw
          case rel => exact ⟨k + 1, by omega, by go_num, by rw [Hid, HN.out, ints_snoc]; exact HO3.out, HB3.out⟩
          case measure => simp [intOf]; omega
    · obtain rfl : k = len := by omega
      have hall : zs.take k = zs := by rw [List.take_of_length_le (by rw [H1.out]; omega)]
      rw [hall] at ho
      clear hall
      obtain ⟨a', cap', rfl⟩ := owns_slice ho.out
      go_wp2
      go_ret
      exact ⟨a', cap', rfl, by rw [hG]; exact ho.out, hBw⟩

theorem specText_as (a : Option Addr) (len cap : Nat) (zs : List Int) (t : ByteArray) (w : World) (h : IsInts w a len cap zs) (ht : txtB zs = t) :
    Calls Try.prog 39 #[.slice a len cap] w fun e w' => e = .returned (.string t) ∧ Dr w w' := by subst ht; exact specText_any a len cap zs w h
theorem mAt_turn {x y : Int} {ps : List Pl} (h : pilesB ps = true) (k i : Nat) : 0 ≤ mAt (mergeL [] ((tps x y ps).take k)) i ∧ mAt (mergeL [] ((tps x y ps).take k)) i ≤ 1000000 := by
  refine mAt_merge (xs := []) rfl (fun p hp => ?_) ?_ i
  · obtain ⟨q, hq, rfl⟩ := List.mem_map.1 (List.mem_of_mem_take hp)
    exact mem_valid h q hq
  · rw [List.length_take, tps_length]; have := (pilesB_pos h).2.2.2.2; omega

set_option maxRecDepth 100000 in
set_option maxHeartbeats 8000000 in
/-- **spec.PilesTurn** answers as canL does. -/
theorem specTurn_as (a1 : Option Addr) (la ca : Nat) (ps : List Pl) (x y : Int) (r : List Pl) (ok : Bool) (w : World) (h : IsPiles w a1 la ca ps) (hs : Small ps) (hr : canL ps x y = r) (hok : canB ps x y = ok) :
    Calls Try.prog 27 #[.slice a1 la ca, .int .i64 x, .int .i64 y] w (GaveP w r ok) := by
  have HI := Lib.hid h
  have HS := Lib.hid hs
  have HR := Lib.hid hr
  have HOK := Lib.hid hok
  have H1 := Lib.hid h.1
  obtain ⟨G, hG⟩ : ∃ G, w.heap.size = G := ⟨_, rfl⟩
  clear h hs hr hok
  obtain ⟨v, hv⟩ : ∃ v, pilesB ps = v := ⟨_, rfl⟩
  obtain ⟨v1, hv1⟩ : ∃ v1, inB x 0 4 = v1 := ⟨_, rfl⟩
  obtain ⟨v2, hv2⟩ : ∃ v2, inB y 0 4 = v2 := ⟨_, rfl⟩
  have HV := Lib.hid hv
  have HV1 := Lib.hid hv1
  have HV2 := Lib.hid hv2
  have HC : Hid (canB ps x y = (v && (v1 && v2))) := by rw [Hid, canB, hv, hv1, hv2]
  clear hv hv1 hv2
  go_enter Try.func27, Try.ntmps27
  go_wp2_with fail
  refine (specPiles_as _ la ca ps v _ HI.out HS.out HV.out).mono ?_
  rintro e1 w1 ⟨rfl, hb1⟩
  have S1 := hb1.size
  cases v
  · have e : Hid (ok = false) := by rw [Hid, ← HOK.out, HC.out]; rfl
    have e2 : Hid (r = []) := by rw [Hid, ← HR.out, canL, HOK.out, e.out]; rfl
    go_wp2
    go_ret2
    refine ⟨some ⟨w1.heap.size, 0, none⟩, 0, by rw [e.out, e2.out]; rfl, by rw [e2.out]; exact empty_lit w1 _ _ S1, hb1.alloc S1 _, fun _ => ⟨_, rfl⟩⟩
  · go_wp2_with fail
    refine (l6In_as x 0 4 v1 _ HV1.out).mono ?_
    rintro e1 w2 ⟨rfl, rfl⟩
    cases v1
    · have e : Hid (ok = false) := by rw [Hid, ← HOK.out, HC.out]; rfl
      have e2 : Hid (r = []) := by rw [Hid, ← HR.out, canL, HOK.out, e.out]; rfl
      go_wp2
      go_ret2
      refine ⟨some ⟨w1.heap.size, 0, none⟩, 0, by rw [e.out, e2.out]; rfl, by rw [e2.out]; exact empty_lit w1 _ _ S1, hb1.alloc S1 _, fun _ => ⟨_, rfl⟩⟩
    · go_wp2_with fail
      refine (l6In_as y 0 4 v2 _ HV2.out).mono ?_
      rintro e1 w2 ⟨rfl, rfl⟩
      cases v2
      · have e : Hid (ok = false) := by rw [Hid, ← HOK.out, HC.out]; rfl
        have e2 : Hid (r = []) := by rw [Hid, ← HR.out, canL, HOK.out, e.out]; rfl
        go_wp2
        go_ret2
        refine ⟨some ⟨w1.heap.size, 0, none⟩, 0, by rw [e.out, e2.out]; rfl, by rw [e2.out]; exact empty_lit w1 _ _ S1, hb1.alloc S1 _, fun _ => ⟨_, rfl⟩⟩
      · have e : Hid (ok = true) := by rw [Hid, ← HOK.out, HC.out]; rfl
        have e2 : Hid (r = turnPs x y ps) := by rw [Hid, ← HR.out, canL, HOK.out, e.out]; rfl
        have hc : canB ps x y = true := HC.out
        obtain ⟨hv, hx, hy⟩ := (canB_iff ps x y).1 hc
        have hla : la ≤ 12 := by have := (pilesB_pos hv).2.2.2.2; rw [H1.out] at this; exact this
        have HMB := Lib.hid (mAt_valid hv)
        obtain ⟨qs, hqs⟩ : ∃ qs, tps x y ps = qs := ⟨_, rfl⟩
        have HQ := Lib.hid hqs
        have HMT : Hid (∀ k i, 0 ≤ mAt (mergeL [] (qs.take k)) i ∧ mAt (mergeL [] (qs.take k)) i ≤ 1000000) := by rw [← hqs]; exact fun k i => mAt_turn hv k i
        have HQL : Hid (qs.length = la) := by rw [Hid, ← hqs, tps_length, H1.out]
        clear hc hv hqs
        have HE : Hid ((w1.alloc (.cells #[] 37)).ownsRow G 37 2 (.slice (some ⟨w1.heap.size, 0, none⟩) 0 0) 0 []) := empty_lit w1 _ G (by omega)
        have HB0 : Hid (Below G w (w1.alloc (.cells #[] 37))) := by rw [← hG]; exact hb1.alloc S1 _
        go_wp2
        go_loopw [8, 9] (fun v i wr => ∃ k : Nat, k ≤ la ∧ i = .int .i64 k ∧ (∃ g c, v = .slice (some ⟨g, 0, none⟩) (mergeL [] (qs.take k)).length c ∧ Hid (wr.ownsRow G 37 2 (.slice (some ⟨g, 0, none⟩) (mergeL [] (qs.take k)).length c) (mergeL [] (qs.take k)).length (cellsP (mergeL [] (qs.take k))))) ∧ Below G w wr) (fun _ i _ => la - (intOf i).toNat)
        case atStart => exact ⟨0, Nat.zero_le _, rfl, ⟨_, _, rfl, HE⟩, HB0.out⟩
        case round =>
          obtain ⟨k, hk, rfl, ⟨g, c, rfl, ho⟩, hB⟩ := hrel
          have hBw : Below w.heap.size w wr := hG.symm ▸ hB
          have hGw : G ≤ wr.heap.size := by have := hBw.size; rw [hG] at this; exact this
          by_cases hlt : k < la
          · obtain ⟨b', off', rfl, hb', c0, c1⟩ := (HI.out.below hBw).piles hlt
            have hb0 : b' < w.heap.size := by
              obtain ⟨b2, off2, e3, hb2, _⟩ := HI.out.piles hlt
              cases e3; exact hb2
            obtain ⟨t, ht⟩ : ∃ t, tAt ps k = t := ⟨_, rfl⟩
            obtain ⟨m, hm⟩ : ∃ m, mAt ps k = m := ⟨_, rfl⟩
            obtain ⟨t', ht'⟩ : ∃ t', turnT x y t = t' := ⟨_, rfl⟩
            obtain ⟨zs, hzs⟩ : ∃ zs, parseL t = zs := ⟨_, rfl⟩
            obtain ⟨pk, hpk⟩ : ∃ pk, validB (nums t) 5 = pk := ⟨_, rfl⟩
            obtain ⟨cu, hcu⟩ : ∃ cu, mergeL [] (qs.take k) = cu := ⟨_, rfl⟩
            obtain ⟨nx, hnx⟩ : ∃ nx, mergeL [] (qs.take (k + 1)) = nx := ⟨_, rfl⟩
            have hcl : cu.length ≤ 24 := by have := (merge_longer [] (qs.take k)).2; rw [hcu, List.length_take, HQL.out] at this; simp at this; omega
            have HMC : Hid (∀ i, 0 ≤ mAt cu i ∧ mAt cu i ≤ 1000000) := by rw [← hcu]; exact HMT.out k
            have hmb := HMB.out k
            have hst := HS.out k
            have hkl : k < ps.length := by rw [H1.out]; exact hlt
            have HN : Hid (putL cu t' m = nx) := by
              have := merge_step (xs := []) (ps := qs) (k := k) (by rw [HQL.out]; exact hlt)
              rw [← HQ.out, tAt_tps hkl, mAt_tps hkl, HQ.out, ht, hm, ht', hcu, hnx] at this
              exact this
            have hl5 : zs.length ≤ 5 := by rw [← hzs]; exact parseL_short t
            have HT : Hid (txtB (turnB x y zs) = t') := by rw [Hid, ← ht', ← hzs]; rfl
            have HNX := Lib.hid hnx
            have HZ := Lib.hid hzs
            have HPK := Lib.hid hpk
            rw [hm] at c1 hmb
            rw [ht] at c0 hst
            rw [hcu] at ho ⊢
            clear ht hm ht' hzs hpk hcu hnx
            have hm1 : 0 ≤ m ∧ m ≤ 1000000 := by omega
            go_wp2_with fail
            refine (specParse_as t zs pk _ hst HZ.out HPK.out).mono ?_
            rintro e3 w3 ⟨a3, cap3, rfl, ho3, hb3⟩
            have O3 := Lib.hid (owns_below ho.out hb3)
            have B3 := Lib.hid (hBw.trans (hb3.mono hBw.size))
            have I3 := Lib.hid (IsInts.of_owned ho3 (by omega))
            have c1' : w3.cell? ⟨b', off' + k * 2 + 1, none⟩ = some (.int .i64 m) := (hb3.cell (p := ⟨b', off' + k * 2 + 1, none⟩) hb').trans c1
            have hb3' : b' < w3.heap.size := Nat.lt_of_lt_of_le hb' hb3.size
            clear ho3 hb3
            -- the ballot, exchanged or left
            rcases Decidable.em (x = y) with exy | exy
            · subst exy
              have hT2 : txtB zs = t' := by have := HT.out; rwa [turnB_same] at this
              have dr1 : Dr w3 w3.drew := ⟨1, rfl⟩
              have ID := I3.out.below (Below.refl w3.heap.size w3).drew
              have PD : ∀ w', Dr w3 w' → IsPiles w' (some ⟨g, 0, none⟩) cu.length c cu := fun w' hd => (IsPiles.of_owned O3.out (by omega)).dr hd
              have GD : ∀ w', Dr w3 w' → g < w'.heap.size := fun w' hd => Nat.lt_of_lt_of_le (O3.out.lt g rfl).2 (hd.below 0).size
              have BD : ∀ w', Dr w3 w' → Below w.heap.size w w' := fun w' hd => B3.out.trans (hd.below _)
              have CD : ∀ w', Dr w3 w' → w'.cell? ⟨b', off' + k * 2 + 1, none⟩ = some (.int .i64 m) := fun w' hd => ((hd.below w3.heap.size).cell (p := ⟨b', off' + k * 2 + 1, none⟩) hb3').trans c1'
              have hcu1 : cu.length ≤ 1000 := by omega
              go_wp2_with fail
              first | go_region_with (first
                  | (go_at_call 39; refine (specText_as a3 zs.length cap3 zs t' _ ID hT2).mono ?_; rintro e5 w5 ⟨rfl, hd5⟩; have dr5 := dr1.trans hd5; have c15 := CD _ dr5)
                  | (go_at_call 43; refine (l3Put_any g 0 cu.length c cu t' m _ (PD _ dr5) (GD _ dr5) hcu1 HMC.out hm1).mono ?_; rintro e6 w6 ⟨g6, c6, he, ho6, hb6⟩; rw [HN.out] at he ho6; subst he; have B6 : Hid (Below w.heap.size w w6) := (BD _ dr5).trans (hb6.mono (BD _ dr5).size); have O6 := Lib.hid (ho6.mono (BD _ dr5).size); clear ho6 hb6)) | fail
              all_goals
                go_wp2
                go_roundw
                case rel => exact ⟨k + 1, by omega, by go_num, ⟨g6, c6, by rw [HNX.out], by rw [HNX.out, ← hG]; exact O6⟩, hG ▸ B6.out⟩
                case measure => simp [intOf]; omega
            · have hne : (x != y) = true := by simp [exy]
              have hne2 : (x == y) = false := by simp [exy]
              go_wp2_with fail
              refine (l3Turn_any a3 zs.length cap3 zs x y _ I3.out (by omega)).mono ?_
              rintro e4 w4 ⟨a4, cap4, rfl, ho4, hb4⟩
              have O4 := Lib.hid (owns_below O3.out hb4)
              have B4 := Lib.hid (B3.out.trans (hb4.mono B3.out.size))
              have I4 : Hid (IsInts w4 a4 zs.length cap4 (turnB x y zs)) := IsInts.of_owned ho4 (by omega)
              have c1'' : w4.cell? ⟨b', off' + k * 2 + 1, none⟩ = some (.int .i64 m) := (hb4.cell (p := ⟨b', off' + k * 2 + 1, none⟩) hb3').trans c1'
              have hb4' : b' < w4.heap.size := Nat.lt_of_lt_of_le hb3' hb4.size
              clear ho4 hb4
              have dr1 : Dr w4 w4.drew := ⟨1, rfl⟩
              have ID := I4.out.below (Below.refl w4.heap.size w4).drew
              have PD : ∀ w', Dr w4 w' → IsPiles w' (some ⟨g, 0, none⟩) cu.length c cu := fun w' hd => (IsPiles.of_owned O4.out (by omega)).dr hd
              have GD : ∀ w', Dr w4 w' → g < w'.heap.size := fun w' hd => Nat.lt_of_lt_of_le (O4.out.lt g rfl).2 (hd.below 0).size
              have BD : ∀ w', Dr w4 w' → Below w.heap.size w w' := fun w' hd => B4.out.trans (hd.below _)
              have CD : ∀ w', Dr w4 w' → w'.cell? ⟨b', off' + k * 2 + 1, none⟩ = some (.int .i64 m) := fun w' hd => ((hd.below w4.heap.size).cell (p := ⟨b', off' + k * 2 + 1, none⟩) hb4').trans c1''
              have hcu1 : cu.length ≤ 1000 := by omega
              go_wp2_with fail
              first | go_region_with (first
                  | (go_at_call 39; refine (specText_as a4 zs.length cap4 (turnB x y zs) t' _ ID HT.out).mono ?_; rintro e5 w5 ⟨rfl, hd5⟩; have dr5 := dr1.trans hd5; have c15 := CD _ dr5)
                  | (go_at_call 43; refine (l3Put_any g 0 cu.length c cu t' m _ (PD _ dr5) (GD _ dr5) hcu1 HMC.out hm1).mono ?_; rintro e6 w6 ⟨g6, c6, he, ho6, hb6⟩; rw [HN.out] at he ho6; subst he; have B6 : Hid (Below w.heap.size w w6) := (BD _ dr5).trans (hb6.mono (BD _ dr5).size); have O6 := Lib.hid (ho6.mono (BD _ dr5).size); clear ho6 hb6)) | fail
              all_goals
                go_wp2
                go_roundw
                case rel => exact ⟨k + 1, by omega, by go_num, ⟨g6, c6, by rw [HNX.out], by rw [HNX.out, ← hG]; exact O6⟩, hG ▸ B6.out⟩
                case measure => simp [intOf]; omega
          · obtain rfl : k = la := by omega
            have hall : mergeL [] (qs.take k) = turnPs x y ps := by rw [List.take_of_length_le (by rw [HQL.out]; omega), ← HQ.out]; rfl
            rw [hall] at ho ⊢
            clear hall
            go_wp2
            go_ret2
            refine ⟨some ⟨g, 0, none⟩, c, ?_, ?_, hBw, fun _ => ⟨_, rfl⟩⟩
            · rw [e.out, e2.out]; rfl
            · rw [e2.out, hG]; exact ho.out

end Go.Proofs.Ytdmjgicopnihgaa
