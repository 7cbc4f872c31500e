/-
  The method heldPiles of impl's transfer: for each candidate the piles that count for this one, in memory of its own; it writes into no memory that was there.
  The method keepSurplus of impl's transfer: the weights of some piles are multiplied by a part; it changes these piles' blocks alone.
  What a step's stores leave of a transfer in memory: a seat less, somebody gone. Of no function.
-/
import Derived.Test.YtafnmongglhlaaaGrp17
import Derived.Test.YtafnmongglhlaaaGrp21
import Derived.Test.YtafnmongglhlaaaGrp16
import Derived.Test.YtafnmongglhlaaaGrp18
import Derived.Deep.RegionHeld3
namespace Go.Proofs.Ytafnmongglhlaaa
open Go.RowKit

attribute [local go_sem] Oper.semAt_some

theorem ptr_info : (Try.prog.info? 143).map (fun i => (i.zero, i.size, i.bytes)) = some (some (.pointer none), 1, 8) := by kernel_rfl
theorem sp_info : (Try.prog.info? 112).map (fun i => (i.zero, i.size, i.bytes)) = some (some (.slice none 0 0), 1, 24) := by kernel_rfl
theorem nils_made (n : Nat) : (madeCells (Value.slice none 0 0).cells (n * 1)).toList = (List.range n).map fun _ => Value.slice none 0 0 := by
  rw [show (Value.slice none 0 0).cells = #[.slice none 0 0] from rfl, toList_madeCells_one]
  refine List.ext_getElem (by simp) (fun i h1 h2 => ?_)
  simp
/-- Rows of pointers, one a candidate, of the first i piles. -/
structure HeldT (w : World) (base g c n : Nat) (H : Nat → Option Addr × Nat) (B : Nat → Nat) (ps : List Pl) (gs : List Bool) (i : Nat) : Prop where
  outer : w.ownsRow base 112 1 (.slice (some ⟨g, 0, none⟩) n c) n ((List.range n).map fun k => .slice (H k).1 (heldL ps gs k i).length (H k).2)
  inner : ∀ k, k < n → w.ownsRow base 143 1 (.slice (H k).1 (heldL ps gs k i).length (H k).2) (heldL ps gs k i).length (ptrs B (heldL ps gs k i))
  nil : ∀ k, k < n → heldL ps gs k i = [] → (H k).1 = none
theorem HeldT.under {w w' : World} {base g c n : Nat} {H : Nat → Option Addr × Nat} {B : Nat → Nat} {ps : List Pl} {gs : List Bool} {i : Nat} (h : HeldT w base g c n H B ps gs i) (hb : Below w.heap.size w w') : HeldT w' base g c n H B ps gs i :=
  ⟨owns_under h.outer hb, fun k hk => owns_under (h.inner k hk) hb, h.nil⟩
theorem owns_not_blk' {w : World} {b b' n n' s s' g c : Nat} {e e' : TypeId} {v : Value} {xs xs' : List Value} (h : w.ownsRow b e s v n xs) (h' : w.ownsRow b' e' s' (.slice (some ⟨g, 0, none⟩) n' c) n' xs') (hne : e ≠ e') : v.ownBlock = none ∨ v.ownBlock ≠ some g := owns_apart hne h h'
/-- Rows of two candidates do not lie in one block. -/
theorem HeldT.apart {w : World} {base g c n : Nat} {H : Nat → Option Addr × Nat} {B : Nat → Nat} {ps : List Pl} {gs : List Bool} {i k x : Nat} (h : HeldT w base g c n H B ps gs i) (hB : ∀ a b, a < i → b < i → B a = B b → a = b) (hk : k < n) (hx : x < n) (hne : k ≠ x) :
    (Value.slice (H k).1 (heldL ps gs k i).length (H k).2).ownBlock = none ∨ (Value.slice (H k).1 (heldL ps gs k i).length (H k).2).ownBlock ≠ (Value.slice (H x).1 (heldL ps gs x i).length (H x).2).ownBlock := by
  by_cases e0 : heldL ps gs k i = []
  · left; rw [h.nil k hk e0]; rfl
  · by_cases e1 : heldL ps gs x i = []
    · cases hkb : (Value.slice (H k).1 (heldL ps gs k i).length (H k).2).ownBlock with
      | none => exact .inl rfl
      | some b => right; rw [h.nil x hx e1]; simp [Value.ownBlock]
    · have p0 : 0 < (heldL ps gs k i).length := List.length_pos_iff.2 e0
      have p1 : 0 < (heldL ps gs x i).length := List.length_pos_iff.2 e1
      obtain ⟨g0, c0, he0⟩ := some_of_owns (h.inner k hk) p0
      obtain ⟨g1, c1, he1⟩ := some_of_owns (h.inner x hx) p1
      have q0 := h.inner k hk
      have q1 := h.inner x hx
      rw [he0] at q0 ⊢
      rw [he1] at q1 ⊢
      right
      intro e
      have e : g0 = g1 := by
        have e2 : (some g0 : Option Nat) = some g1 := e
        injection e2
      subst e
      have c0' := q0.cellAt 0 (by omega)
      have c1' := q1.cellAt 0 (by omega)
      rw [c0'] at c1'
      have f0 : (ptrs B (heldL ps gs k i))[0]? = some (.pointer (some ⟨B ((heldL ps gs k i)[0]'p0), 0, none⟩)) := by simp [ptrs, p0]
      have f1 : (ptrs B (heldL ps gs x i))[0]? = some (.pointer (some ⟨B ((heldL ps gs x i)[0]'p1), 0, none⟩)) := by simp [ptrs, p1]
      rw [f0, f1] at c1'
      injection c1' with c1'
      injection c1' with c1'
      injection c1' with c1'
      injection c1' with c1' _ _
      have m0 := heldL_mem.1 (List.getElem_mem p0)
      have m1 := heldL_mem.1 (List.getElem_mem p1)
      have := hB _ _ m0.1 m1.1 c1'
      rw [this] at m0
      rw [m1.2] at m0
      have := m0.2
      omega

set_option maxRecDepth 100000 in
set_option maxHeartbeats 8000000 in
/-- **heldPiles**. -/
theorem held_as (base T : Nat) (R : TR) (ps : List Pl) (lots : List Int) (q : Int) (S : TfS) (n : Nat) (w : World) (hT : TS w base T R ps lots q S ps.length) (hf : fitsB ps (n : Int) = true) (hn : lots.length = n) (hg : S.gs.length = n) :
    Calls Try.prog 111 #[.pointer (some ⟨T, 0, none⟩)] w fun e w' => ∃ g c H, e = .returned (.slice (some ⟨g, 0, none⟩) n c) ∧ HeldT w' w.heap.size g c n H R.B ps S.gs ps.length ∧ Below w.heap.size w w' := by
  obtain ⟨ip, hip, hp0, hp1, hp2⟩ := info_parts ptr_info
  obtain ⟨is, his, hs0, hs1, hs2⟩ := info_parts sp_info
  obtain ⟨G, hG⟩ : ∃ G, w.heap.size = G := ⟨_, rfl⟩
  obtain ⟨len, hlen⟩ : ∃ len, ps.length = len := ⟨_, rfl⟩
  obtain ⟨hp, hn1, hn5, hval⟩ := fits_parts hf
  have hl12 : len ≤ 12 := by rw [← hlen]; exact (pilesB_pos hp).2.2.2.2
  rw [hlen] at hT ⊢
  have k0 : w.cell? ⟨T, 0, none⟩ = some (.slice R.ap len R.cp) := blk_cell hT.blk 0
  have k2 : w.cell? ⟨T, 2, none⟩ = some (.slice (some ⟨R.gg, 0, none⟩) n R.cg) := hn ▸ blk_cell hT.blk 2
  have htl := blk_lt hT.blk
  have HT := Lib.hid hT
  have HPT := Lib.hid (IsPt.of_owned hT.piles (by omega))
  have HGN := hT.gone
  rw [hn] at HGN
  have HGB := Lib.hid (IsBools.of_owned HGN (by omega))
  have HV := Lib.hid hval
  have HL := Lib.hid hlen
  have HGL := Lib.hid hg
  have K2 := Lib.hid k2
  clear hT hf hp hval hlen HGN
  go_enter Try.func111, Try.ntmps111
  go_wp2_with (at_make; refine wpList_make_full _ rfl _ _ 145 rfl G 112 is (.slice none 0 0) 1 Try.underlying145 his hs0 hs1 .i64 .i64 _ _ n rfl rfl rfl rfl (by rw [hs2]; omega) (by unfold maxLen; omega) (by omega) ?_; intro w3 hown hgrow; have hb3 : Below w.heap.size w w3 := (Below.refl _ w).grown hgrow (Nat.le_refl _) (fun k e => by cases e); have d0 := (hb3.cell (p := ⟨T, 0, none⟩) htl).trans k0)
  rw [nils_made] at hown
  have HH3 : Hid (HeldT w3 G G n n (fun _ => (none, 0)) R.B ps S.gs 0) := by
    refine ⟨?_, fun k hk => ?_, fun k hk _ => rfl⟩
    · rw [hG] at hown; exact hown
    · exact World.ownsRow_nil _ _ _ _
  have B3 : Below G w w3 := hG ▸ hb3
  clear hown hgrow hb3 k0 k2 d0
  go_loopw [5, 6, 18] (fun _ _ iv wr => ∃ (i : Nat) (H : Nat → Option Addr × Nat), i ≤ len ∧ iv = .int .i64 (i : Int) ∧ Hid (HeldT wr G G n n H R.B ps S.gs i) ∧ Below G w wr) (fun _ _ iv _ => len - (intOf iv).toNat)
  case atStart => exact ⟨0, _, Nat.zero_le _, rfl, HH3, B3⟩
  case round =>
    clear HH3 B3
    obtain ⟨i, H, hil, rfl, hH, hB⟩ := hrel
    have hBs : G ≤ wr.heap.size := by have := hB.size; omega
    have hBw : Below w.heap.size w wr := hG.symm ▸ hB
    by_cases hlt : i < len
    · have IP := HPT.out.below hBw
      obtain ⟨pb, po, hpe, hpb, hpc⟩ := IP.2.2.2 (by omega)
      have hci := hpc i hlt
      rw [show ((List.range len).map R.B)[i]?.getD 0 = R.B i by simp [hlt]] at hci
      obtain ⟨bg, hbg⟩ : ∃ bg, R.B i = bg := ⟨_, rfl⟩
      have hblk := blk_under (HT.out.pm.pile i hlt) hBw
      have hbal := IsInts.of_owned (owns_under (HT.out.pm.ballot i hlt) hBw) (by have := parseL_short (tAt ps i); omega)
      obtain ⟨pl, hpl⟩ : ∃ pl, parseL (tAt ps i) = pl := ⟨_, rfl⟩
      obtain ⟨ba, hba⟩ : ∃ ba, R.ba i = ba := ⟨_, rfl⟩
      obtain ⟨bc, hbc⟩ : ∃ bc, R.bc i = bc := ⟨_, rfl⟩
      have hips : i < ps.length := by rw [HL.out]; exact hlt
      have hvN : validB pl (n : Int) = true := by rw [← hpl]; exact HV.out i hips
      have hl5 : pl.length ≤ 5 := by rw [← hpl]; exact parseL_short _
      have HFST : Hid (firstB pl S.gs = tfFst ps S.gs i) := by unfold Hid firstB tfFst; rw [HGL.out, hvN, if_pos rfl, hpl]
      have HZ : ∀ z ∈ pl, 0 ≤ z ∧ z < (n : Int) := (vB_mem hvN).2.2
      rw [hpl, hba, hbc] at hblk hbal
      rw [hbg] at hblk hci
      have hbl := blk_lt hblk
      have c0 : wr.cell? ⟨bg, 0, none⟩ = some (.slice ba pl.length bc) := blk_cell hblk 0
      have u0 : ∀ u : Beh wr, u.w.cell? ⟨bg, 0, none⟩ = _ := Beh.cell c0 hbl
      have u2 : ∀ u : Beh wr, u.w.cell? ⟨T, 2, none⟩ = _ := Beh.cell ((hBw.cell (p := ⟨T, 2, none⟩) htl).trans K2.out) (Nat.lt_of_lt_of_le htl hBw.size)
      have HBAL := Lib.hid hbal
      have HGW := Lib.hid (HGB.out.below hBw)
      have HBG := Lib.hid hbg
      have HPL := Lib.hid hpl
      obtain ⟨z, hz⟩ : ∃ z, firstB pl S.gs = z := ⟨_, rfl⟩
      have hzr : z = -1 ∨ 0 ≤ z ∧ z < (n : Int) := by
        rw [← hz, HFST.out]; unfold tfFst
        rcases firstL_mem (parseL (tAt ps i)) S.gs with e | e
        · exact .inl e
        · rw [hpl] at e ⊢; exact .inr (HZ _ e)
      have HFZ : Hid (tfFst ps S.gs i = z) := by unfold Hid; rw [← hz, HFST.out]
      have HZE := Lib.hid hz
      clear IP hpc hblk hbal hbg hpl hba hbc hvN HFST c0 hz
      rw [hpe]
      go_wp2_with fail
      refine wp_region_below (by kernel_rfl) (by kernel_rfl) ?_
      repeat (go_big_quiet_step (first | (go_at_call 126; exact Calls.beh ((implFirst_any _ _ _ pl _ _ _ S.gs _ (HBAL.out.below (Beh.below _)) (HGW.out.below (Beh.below _))).mono (by rintro e w5 ⟨he, hb5⟩; rw [HZE.out] at he; exact ⟨he, hb5⟩)))))
      refine wpQuiet_nil ?_
      rintro w8 ⟨⟨_, hb8'⟩, he⟩
      have hb8 : Below wr.heap.size wr w8 := by rw [he]; exact hb8'
      have HH8 := Lib.hid (hH.out.under hb8)
      have B8 : Below G w w8 := hB.trans (hb8.mono hBs)
      clear u0 u2 hb8' he hH hB HBAL HGW hBw
      have hB8s : G ≤ w8.heap.size := by have := B8.size; omega
      by_cases hz0 : 0 ≤ z
      · obtain ⟨x, rfl⟩ := Int.eq_ofNat_of_zero_le hz0
        have hxn : x < n := by omega
        have hne : ((x : Int) != -1) = true := by simp
        obtain ⟨ha, hc, hH0⟩ : ∃ ha hc, H x = (ha, hc) := ⟨_, _, rfl⟩
        obtain ⟨l, hl⟩ : ∃ l, heldL ps S.gs x i = l := ⟨_, rfl⟩
        have OX := HH8.out.inner x hxn
        have CX : w8.cell? ⟨G, x, none⟩ = some (.slice ha l.length hc) := by
          rw [HH8.out.outer.cellAt x (by omega)]
          simp [hxn, hH0, hl]
        have FX : w8.frozen? ⟨G, x, none⟩ = false := HH8.out.outer.frozenAt x
        have hGl : G < w8.heap.size := (HH8.out.outer.lt G rfl).2
        have hli : l.length ≤ i := by rw [← hl]; exact heldL_short ps S.gs x i
        rw [hH0, hl] at OX
        have HOX := Lib.hid OX
        have HL0 := Lib.hid hl
        have HHE := Lib.hid hH0
        clear OX hl hH0
        go_wp2_with (at_builtin; refine wpList_append_own _ rfl _ _ 112 rfl G 143 ip (.pointer none) 1 8 Try.underlying112 hip hp0 hp1 hp2 rfl (by decide) _ _ _ rfl (HOX.out.alloc _) ⟨w8.heap.size, 0, none⟩ 1 1 [.pointer (some ⟨bg, 0, none⟩)] rfl rfl (lits_new _ _ _) (by simp [Value.oneCell']) (by unfold maxLen; omega) (by omega) (by simp; omega) ?_; intro v' w4 hown' hgrow _; obtain ⟨a4, c4, rfl⟩ := owns_slice hown'; have O4 := Lib.hid hown'; have G4 := Lib.hid hgrow; have hAp := owns_apart (by decide) (HH8.out.outer.alloc (.cells #[.pointer (some ⟨bg, 0, none⟩)] 143)) (HOX.out.alloc (.cells #[.pointer (some ⟨bg, 0, none⟩)] 143)); have OU4 := Lib.hid ((HH8.out.outer.alloc (.cells #[.pointer (some ⟨bg, 0, none⟩)] 143)).kept hgrow hAp); have CX4 : w4.cell? ⟨G, x, none⟩ = some (.slice ha l.length hc) := (by rw [OU4.out.cellAt x (by omega)]; simp [hxn, HHE.out, HL0.out]); have FX4 : w4.frozen? ⟨G, x, none⟩ = false := OU4.out.frozenAt x; clear hown' hgrow hAp)
        have hrow : ∀ k, (Value.slice ha l.length hc).ownBlock = some k → G ≤ k := fun k ek => (HOX.out.lt k ek).1
        have B4 : Below G w w4 := (B8.alloc (by omega) (.cells #[.pointer (some ⟨bg, 0, none⟩)] 143)).grown G4.out (by simp; omega) (fun k e => hrow k e)
        have hs4 := OU4.out.stored x (.slice a4 (l.length + 1) c4)
        have hmem : ∀ a b, a < i → b < i → R.B a = R.B b → a = b := fun a b h1 h2 => HT.out.pm.inj a b (by omega) (by omega)
        have HH9 : Hid (HeldT (w4.setCell ⟨G, x, none⟩ (.slice a4 (l.length + 1) c4)) G G n n (fun k => if k = x then (a4, c4) else H k) R.B ps S.gs (i + 1)) := by
          have ex : heldL ps S.gs x (i + 1) = l ++ [i] := by rw [heldL_hit HFZ.out, HL0.out]
          have eo : ∀ k, k ≠ x → heldL ps S.gs k (i + 1) = heldL ps S.gs k i := fun k hk => heldL_miss (by rw [HFZ.out]; omega)
          refine ⟨?_, fun k hk => ?_, fun k hk h => ?_⟩
          · have e : (List.range n).map (fun k => Value.slice (if k = x then (a4, c4) else H k).1 (heldL ps S.gs k (i + 1)).length (if k = x then (a4, c4) else H k).2) = ((List.range n).map fun k => Value.slice (H k).1 (heldL ps S.gs k i).length (H k).2).set x (.slice a4 (l.length + 1) c4) := by
              refine List.ext_getElem (by simp) (fun k h1 h2 => ?_)
              simp only [List.getElem_map, List.getElem_range, List.getElem_set]
              by_cases e2 : x = k
              · subst e2; rw [if_pos rfl, if_pos rfl, ex, List.length_append]; rfl
              · rw [if_neg (Ne.symm e2), if_neg e2, eo k (Ne.symm e2)]
            rw [e]; exact hs4.1
          · by_cases e2 : k = x
            · subst e2
              simp only [if_pos]
              rw [ex, List.length_append]
              have e3 : ptrs R.B (l ++ [i]) = ptrs R.B l ++ [.pointer (some ⟨bg, 0, none⟩)] := by simp [ptrs, HBG.out]
              rw [e3]
              exact O4.out.kept hs4.2 (owns_not_blk' O4.out OU4.out (by decide))
            · simp only [if_neg e2]
              rw [eo k e2]
              have h1 := HH8.out.apart hmem hk hxn e2
              rw [HHE.out, HL0.out] at h1
              have h2 := (HH8.out.inner k hk).alloc (.cells #[.pointer (some ⟨bg, 0, none⟩)] 143)
              have h3 := h2.kept G4.out h1
              exact h3.kept hs4.2 (owns_not_blk' h3 OU4.out (by decide))
          · by_cases e2 : k = x
            · subst e2; rw [ex] at h; simp at h
            · simp only [if_neg e2]; rw [eo k e2] at h; exact HH8.out.nil k hk h
        have B9 : Below G w (w4.setCell ⟨G, x, none⟩ (.slice a4 (l.length + 1) c4)) := B4.setCell (p := ⟨G, x, none⟩) (Nat.le_refl _) _
        clear HH8 O4 G4 OU4 HOX hs4 B4 CX CX4 FX FX4
        go_roundw
        case rel => exact ⟨i + 1, _, by omega, by go_num, HH9, B9⟩
        case measure => simp [intOf]; omega
      · have hz1 : z = -1 := by omega
        subst hz1
        have HH9 : Hid (HeldT w8 G G n n H R.B ps S.gs (i + 1)) := by
          have e : ∀ k, heldL ps S.gs k (i + 1) = heldL ps S.gs k i := fun k => heldL_miss (by rw [HFZ.out]; omega)
          refine ⟨?_, fun k hk => ?_, fun k hk h => HH8.out.nil k hk (by rw [← e]; exact h)⟩
          · have := HH8.out.outer
            simpa only [e] using this
          · rw [e]; exact HH8.out.inner k hk
        clear HH8
        go_wp2
        go_roundw
        case rel => exact ⟨i + 1, H, by omega, by go_num, HH9, B8⟩
        case measure => simp [intOf]; omega
    · obtain rfl : i = len := by omega
      go_wp2
      go_ret
      exact ⟨G, n, H, rfl, hG.symm ▸ hH.out, hBw⟩

end Go.Proofs.Ytafnmongglhlaaa

namespace Go.Proofs.Ytafnmongglhlaaa
open Go.RowKit

attribute [local go_sem] Oper.semAt_some

theorem cut_times {w1 w2 n d : Int} (hw : 0 < w2) (hd : 0 < d) : ofF (w1 * (ofF n d).1) (w2 * (ofF n d).2) = ofF (w1 * n) (w2 * d) := by
  have h := ofF_same (n := n) (d := d)
  unfold SameF at h
  have hp := (ofF_bound (n := n) (d := d) hd).2.1
  refine ofF_same_eq (Int.mul_pos hw (by omega)) (Int.mul_pos hw hd) ?_
  have h2 : (ofF n d).1 * d = n * (ofF n d).2 := h
  calc w1 * (ofF n d).1 * (w2 * d) = w1 * w2 * ((ofF n d).1 * d) := by grind
    _ = w1 * w2 * (n * (ofF n d).2) := by rw [h2]
    _ = w1 * n * (w2 * (ofF n d).2) := by grind
/-- A pile's weight is written. -/
theorem PM.set {w : World} {base : Nat} {R : TR} {ps : List Pl} {ws ws' : List Fr} {m j : Nat} {x y : Int} (h : PM w base R ps ws m) (hj : j < m) (h1 : tfW ws' j = (x, y)) (h2 : ∀ k, k < m → k ≠ j → tfW ws' k = tfW ws k) :
    PM ((w.setCell ⟨R.B j, 2, none⟩ (.int .i64 x)).setCell ⟨R.B j, 3, none⟩ (.int .i64 y)) base R ps ws' m := by
  have b1 := blk_set (h.pile j hj) 2 (.int .i64 x)
  have b2 := blk_set b1 3 (.int .i64 y)
  refine ⟨fun k hk => ?_, h.low, fun k hk => ?_, h.inj⟩
  · by_cases e : k = j
    · subst e
      rw [b2, h1]
      simp [pileC]
    · have hne : R.B k ≠ R.B j := fun e2 => e (h.inj k j hk hj e2)
      rw [blk_other hne, blk_other hne, h2 k hk e]
      exact h.pile k hk
  · exact owns_set_blk (owns_set_blk (h.ballot k hk) (h.pile j hj) (by decide)) b1 (by decide)
/-- What two stores into a pile's weight meet. -/
theorem PM.meets {w : World} {base : Nat} {R : TR} {ps : List Pl} {ws : List Fr} {m j : Nat} (h : PM w base R ps ws m) (hj : j < m) (u : Value) :
    (w.cell? ⟨R.B j, 2, none⟩ = some (.int .i64 (tfW ws j).1) ∧ w.frozen? ⟨R.B j, 2, none⟩ = false) ∧ (w.setCell ⟨R.B j, 2, none⟩ u).cell? ⟨R.B j, 3, none⟩ = some (.int .i64 (tfW ws j).2) ∧ (w.setCell ⟨R.B j, 2, none⟩ u).frozen? ⟨R.B j, 3, none⟩ = false := by
  have b0 := h.pile j hj
  have b1 := blk_set b0 2 u
  exact ⟨⟨blk_cell b0 2, blk_frozen b0 2⟩, (blk_cell b1 3).trans (by simp [pileC]), blk_frozen b1 3⟩
/-- The weights behind the first i of some piles. -/
def tfMix (ws : List Fr) (c : Fr) (q : Int) (m : Nat) (L : List Nat) : List Fr := (List.range m).map fun j => if j ∈ L then tfCut (tfW ws j) c q else tfW ws j
theorem tfMix_at {ws : List Fr} {c : Fr} {q : Int} {m : Nat} {L : List Nat} {j : Nat} (h : j < m) : tfW (tfMix ws c q m L) j = if j ∈ L then tfCut (tfW ws j) c q else tfW ws j := by
  simp [tfMix, tfW, h]
theorem tfMix_held (ps : List Pl) (ws : List Fr) (gs : List Bool) (c : Fr) (q : Int) (k : Nat) : tfMix ws c q ps.length (heldL ps gs k ps.length) = tfWeigh ps ws gs (k : Int) c q := by
  unfold tfMix tfWeigh
  refine List.map_congr_left (fun j hj => ?_)
  have hj := List.mem_range.1 hj
  unfold tfWgh
  by_cases e : tfFst ps gs j = (k : Int)
  · rw [if_pos (heldL_mem.2 ⟨hj, e⟩), if_pos e]
  · rw [if_neg (fun h => e (heldL_mem.1 h).2), if_neg e]
theorem PM.congr {w : World} {base : Nat} {R : TR} {ps : List Pl} {ws ws' : List Fr} {m : Nat} (h : PM w base R ps ws m) (he : ∀ j, j < m → tfW ws' j = tfW ws j) : PM w base R ps ws' m :=
  ⟨fun j hj => by rw [he j hj]; exact h.pile j hj, h.low, h.ballot, h.inj⟩
theorem heldL_nodup (ps : List Pl) (gs : List Bool) (k i : Nat) : (heldL ps gs k i).Nodup := List.nodup_range.filter _

set_option maxRecDepth 100000 in
set_option maxHeartbeats 8000000 in
/-- **keepSurplus**. -/
theorem keep_as (base T b0 : Nat) (R : TR) (ps : List Pl) (lots : List Int) (q : Int) (S : TfS) (a : Option Addr) (len cap : Nat) (L : List Nat) (c1 c2 : Int) (D : Int) (w : World) (hT : TS w base T R ps lots q S ps.length)
    (h : w.ownsRow b0 143 1 (.slice a len cap) len (ptrs R.B L)) (hlm : len ≤ 1048600) (hL : ∀ j ∈ L, j < ps.length) (hnd : L.Nodup) (hw : ∀ j, j < ps.length → TfOkW D (tfW S.ws j)) (hD : 1 ≤ D ∧ D ≤ 60) (hc1 : 1 ≤ c1 ∧ c1 ≤ 3600) (hc2 : 1 ≤ c2 ∧ c2 ≤ 60) (hq : 0 ≤ c1 - q * c2) (hq2 : 1 ≤ q ∧ q ≤ 61) :
    Calls Try.prog 114 #[.pointer (some ⟨T, 0, none⟩), .slice a len cap, .agg #[.int .i64 c1, .int .i64 c2]] w fun e w' => e = .returned (.tuple #[]) ∧ TS w' base T R ps lots q ⟨S.gs, tfMix S.ws (c1, c2) q ps.length L, S.s⟩ ps.length ∧ Chg base (fun e => e = 158) w w' := by
  have hqc : 0 ≤ q * c2 ∧ q * c2 ≤ 61 * 60 := ⟨Int.mul_nonneg (by omega) (by omega), Int.le_trans (Int.mul_le_mul_of_nonneg_right hq2.2 (by omega)) (Int.mul_le_mul_of_nonneg_left hc2.2 (by omega))⟩
  have hwq : IntKind.i64.wrap (q * c2) = q * c2 := IntWalk.i64_in _ (by omega)
  obtain ⟨ov, hov⟩ : ∃ ov, c1 - q * c2 = ov := ⟨_, rfl⟩
  have hov2 : 0 ≤ ov ∧ ov ≤ 3600 := by omega
  have hwo : IntKind.i64.wrap ov = ov := IntWalk.i64_in _ (by omega)
  obtain ⟨p1, p2, hpe⟩ : ∃ p1 p2, ofF ov c1 = (p1, p2) := ⟨_, _, rfl⟩
  have hpv : fracB (p1, p2) = true := by rw [← hpe]; exact ofF_valid (by omega) (by omega)
  have HOK : Hid (ofOk ov c1 = true) := (ofOk_iff _ _).2 (by omega)
  have HPF : Hid (ofR ov c1 = (p1, p2)) := by unfold Hid; rw [ofR_yes HOK.out, hpe]
  have HPE := Lib.hid hpe
  have HT := Lib.hid hT
  have HI := Lib.hid h
  have HL := Lib.hid hL
  have HND := Lib.hid hnd
  have HW := Lib.hid hw
  have H1 : Hid (L.length = len) := by have := h.1; rw [ptrs_length] at this; unfold Hid; omega
  have htl := blk_lt hT.blk
  have k4' : w.cell? ⟨T, 4, none⟩ = some (.int .i64 q) := blk_cell hT.blk 4
  have hb0 : Below w.heap.size w (w.alloc (.cells #[.int .i64 c1, .int .i64 c2] 40)) := (Below.refl _ w).alloc (Nat.le_refl _) _
  obtain ⟨G, hG⟩ : ∃ G, w.heap.size = G := ⟨_, rfl⟩
  have T0 := Two.at (Two.new w c1 c2 40) hG
  obtain ⟨lx, x0, x9, -, -⟩ := T0
  have k4 := (hb0.cell (p := ⟨T, 4, none⟩) htl).trans k4'
  have htl1 : T < (w.alloc (.cells #[.int .i64 c1, .int .i64 c2] 40)).heap.size := Nat.lt_of_lt_of_le htl hb0.size
  have B0 := Lib.hid hb0
  clear hT h hL hnd hw hpe k4' hb0
  go_enter Try.func114, Try.ntmps114
  go_upto_region 1 with fail
  generalize hW0 : w.alloc (.cells #[.int .i64 c1, .int .i64 c2] 40) = W0 at *
  clear hW0
  go_cut [6, 7] from 10 to 25 (fun s6 s7 wx => MadeB W0 p1 p2 true s6 s7 wx)
  case first =>
    have q0 := World.new_ne W0 ⟨G, 0, none⟩ x0
    have q1 := World.new_ne W0 ⟨G, 1, none⟩ x9
    have q2 := World.new_ne W0 ⟨T, 4, none⟩ k4
    go_region_held3 (fun w' => w'.cell? ⟨G, 0, none⟩ = some (.int .i64 c1) ∧ w'.cell? ⟨G, 1, none⟩ = some (.int .i64 c2) ∧ w'.cell? ⟨T, 4, none⟩ = some (.int .i64 q)) (go_keep)
      (first | (go_at_call 130; refine (implFracOf_as ov c1 p1 p2 true _ HPF.out HOK.out).mono ?_; rintro e w3 ⟨rfl, hb0⟩; have hb9 := below_drew hb0; (first | (have N3 := Lib.hid ((Two.new W0 0 0 40).below hb9); have C3 := Lib.hid (below_on (below_more (Below.refl _ W0) (.cells #[.int .i64 0, .int .i64 0] 40)) hb9); obtain ⟨ln3, n3, m3, g3, h3⟩ := N3.out; clear hb9 hb0) | (have C3 := Lib.hid (below_on (Below.refl _ W0) hb9); clear hb9 hb0)); have s0 := (C3.out.cell (p := ⟨G, 0, none⟩) lx).trans x0; have s1 := (C3.out.cell (p := ⟨G, 1, none⟩) lx).trans x9; have s2 := (C3.out.cell (p := ⟨T, 4, none⟩) htl1).trans k4; have q3 := World.new_ne w3 ⟨G, 0, none⟩ s0; have q4 := World.new_ne w3 ⟨G, 1, none⟩ s1; have q5 := World.new_ne w3 ⟨T, 4, none⟩ s2))
    all_goals
      have hs1 := C3.out.size
      go_wp2_with fail
      go_meet
      first
        | exact made_new C3.out
        | exact made_old N3.out C3.out (by omega)
  case rest =>
  obtain ⟨p, rfl, rfl, hP, hBx⟩ := hcut
  have UP := Lib.hid hP
  have B1 := Lib.hid (below_on B0.out hBx)
  clear hP hBx B0 lx x0 x9 k4 htl1
  clear W0
  rename World => w1
  have M0 : PM w1 base R ps (tfMix S.ws (c1, c2) q ps.length (L.take 0)) ps.length := ((HT.out.under B1.out).pm).congr (fun j hj => by rw [tfMix_at hj]; simp)
  have HM0 := Lib.hid M0
  clear M0
  go_wp2
  go_loopw [9, 28] (fun _ iv wr => ∃ (i : Nat), i ≤ len ∧ iv = .int .i64 (i : Int) ∧ Hid (PM wr base R ps (tfMix S.ws (c1, c2) q ps.length (L.take i)) ps.length) ∧ Hid (Two wr p p1 p2) ∧ Hid (Chg base (fun e => e = 158) w wr)) (fun _ iv _ => len - (intOf iv).toNat)
  case atStart => exact ⟨0, Nat.zero_le _, rfl, HM0, UP, Lib.hid (Chg.of_below B1.out)⟩
  case round =>
    clear HM0 UP B1
    obtain ⟨i, hil, rfl, hM, hP, hC⟩ := hrel
    by_cases hlt : i < len
    · have hlt0 : i < L.length := by rw [H1.out]; exact hlt
      obtain ⟨j, hj⟩ : ∃ j, L[i]?.getD 0 = j := ⟨_, rfl⟩
      have hjL : j ∈ L := by rw [← hj]; simp [hlt0]
      have hjm := HL.out j hjL
      have hjnot : j ∉ L.take i := by
        intro hm
        obtain ⟨k, hk, hke⟩ := List.getElem_of_mem hm
        have hki : k < i := by simp at hk; omega
        have e1 : L[k]'(by omega) = j := by rw [← hke]; simp
        have e2 : L[i] = j := by rw [← hj]; simp [hlt0]
        have := (List.getElem_inj HND.out).1 (e1.trans e2.symm)
        omega
      have hown := owns_chg HI.out hC.out (by decide)
      obtain ⟨b, off, hae, hbl, hpc⟩ := (IsPt.of_owned hown hlm).2.2.2 (by omega)
      have hci := hpc i hlt
      rw [show (L.map R.B)[i]?.getD 0 = R.B j by rw [← hj]; simp [hlt0]] at hci
      have hblk := hM.out.pile j hjm
      have hme := hM.out.meets hjm
      have hwj : tfW (tfMix S.ws (c1, c2) q ps.length (L.take i)) j = tfW S.ws j := by rw [tfMix_at hjm, if_neg hjnot]
      obtain ⟨w1', w2', hwe⟩ : ∃ w1 w2, tfW S.ws j = (w1, w2) := ⟨_, _, rfl⟩
      have hwok := HW.out j hjm
      have hwr := cut_range (q := q) (c := (c1, c2)) hwok hD hc1 (by show 0 ≤ c1 - q * c2; omega) hqc.1
      have hwv := okw_valid hwok hD
      have hwp := hwok.pos
      rw [hwe] at hwr hwv hwp
      rw [hwj, hwe] at hblk hme
      have hwr1 : 0 ≤ w1' * (c1 - q * c2) ∧ w1' * (c1 - q * c2) ≤ 216000 := hwr.1
      have hwr2 : 1 ≤ w2' * c1 ∧ w2' * c1 ≤ 216000 := hwr.2
      rw [hov] at hwr1
      have hwp' : 0 < w2' := hwp
      obtain ⟨r1, r2, hre⟩ : ∃ r1 r2, ofF (w1' * ov) (w2' * c1) = (r1, r2) := ⟨_, _, rfl⟩
      have hct := cut_times (w1 := w1') (n := ov) (d := c1) hwp' (by omega)
      rw [HPE.out, hre] at hct
      have hct : ofF (w1' * p1) (w2' * p2) = (r1, r2) := hct
      have hrv : fracB (r1, r2) = true := by rw [← hre]; exact ofF_valid (by omega) (by omega)
      have HRT : Hid (redOk (proF (w1', w2') (p1, p2)).1 (proF (w1', w2') (p1, p2)).2 = true) := by
        unfold Hid redOk proF
        show fracB (ofF (w1' * p1) (w2' * p2)) = true
        rw [hct]; exact hrv
      have HRV : Hid (redR (proF (w1', w2') (p1, p2)).1 (proF (w1', w2') (p1, p2)).2 = (r1, r2)) := by
        unfold Hid redR; rw [HRT.out, if_pos rfl]; exact hct
      have hnew : tfW (tfMix S.ws (c1, c2) q ps.length (L.take (i + 1))) j = (r1, r2) := by
        rw [tfMix_at hjm, takeN_snoc hlt0, hj, if_pos (by simp), hwe]
        unfold tfCut
        show ofF (w1' * (c1 - q * c2)) (w2' * c1) = _
        rw [hov, hre]
      have hold : ∀ k, k < ps.length → k ≠ j → tfW (tfMix S.ws (c1, c2) q ps.length (L.take (i + 1))) k = tfW (tfMix S.ws (c1, c2) q ps.length (L.take i)) k := fun k hk hne => by
        rw [tfMix_at hk, tfMix_at hk, takeN_snoc hlt0, hj]
        by_cases e : k ∈ L.take i
        · rw [if_pos (by simp [e]), if_pos e]
        · rw [if_neg (by simp [e, hne]), if_neg e]
      have HNEW := Lib.hid hnew
      have HOLD := Lib.hid hold
      obtain ⟨g, hge⟩ : ∃ g, R.B j = g := ⟨_, rfl⟩
      have HGE := Lib.hid hge
      rw [hge] at hci hblk
      have hgl := blk_lt hblk
      have v0 : wr.cell? ⟨g, 2, none⟩ = some (.int .i64 w1') := blk_cell hblk 2
      have v1 : wr.cell? ⟨g, 3, none⟩ = some (.int .i64 w2') := blk_cell hblk 3
      have f0 : wr.frozen? ⟨g, 2, none⟩ = false := blk_frozen hblk 2
      have f1 : wr.frozen? ⟨g, 3, none⟩ = false := blk_frozen hblk 3
      obtain ⟨lp, t0, t9, -, -⟩ := hP.out
      have u0 : ∀ u : Beh wr, u.w.cell? ⟨g, 2, none⟩ = _ := Beh.cell v0 hgl
      have u1 : ∀ u : Beh wr, u.w.cell? ⟨g, 3, none⟩ = _ := Beh.cell v1 hgl
      have u2 : ∀ u : Beh wr, u.w.cell? ⟨p, 0, none⟩ = _ := Beh.cell t0 lp
      have u3 : ∀ u : Beh wr, u.w.cell? ⟨p, 1, none⟩ = _ := Beh.cell t9 lp
      have HJM := Lib.hid hjm
      have HHC := Lib.hid hC.out.size
      have HWR := Lib.hid (show wr.heap.size ≤ wr.heap.size from Nat.le_refl _)
      clear hown hpc hblk hme hwj hwe hwok hwr hwp hct hre hnew hold hge u0 u1 u2 u3 hj hjL hjm hjnot HWR
      rw [hae]
      go_upto_region 5 with fail
      go_region_law (first
        | (go_simp; go_at_call 127; refine (times_as w1' w2' p1 p2 r1 r2 true _ hwv hpv HRV.out HRT.out).mono ?_; rintro e w8 ⟨rfl, hb0⟩; have hb8 := below_drew hb0; have z0 : w8.cell? ⟨g, 2, none⟩ = some (.int .i64 w1') := (hb8.cell (p := ⟨g, 2, none⟩) hgl).trans v0; have z1 : w8.frozen? ⟨g, 2, none⟩ = false := (hb8.frozen (p := ⟨g, 2, none⟩) hgl).trans f0; have z2 : (w8.setCell ⟨g, 2, none⟩ (.int .i64 r1)).cell? ⟨g, 3, none⟩ = some (.int .i64 w2') := (World.cell?_setCell_other _ _ _ _ (by intro e; injection e with _ e2; exact absurd e2 (by decide))).trans ((hb8.cell (p := ⟨g, 3, none⟩) hgl).trans v1); have z3 : (w8.setCell ⟨g, 2, none⟩ (.int .i64 r1)).frozen? ⟨g, 3, none⟩ = false := (World.frozen?_setCell _ _ _ _).trans ((hb8.frozen (p := ⟨g, 3, none⟩) hgl).trans f1); have HB8 := Lib.hid hb8; clear hb0 hb8))
      all_goals
        have M8 := Lib.hid (hM.out.under HB8.out)
        have P8 := Lib.hid (hP.out.below HB8.out)
        have C8 := Lib.hid (hC.out.on HB8.out)
        have b8 := M8.out.pile j HJM.out
        have M9 : Hid (PM ((w8.setCell ⟨g, 2, none⟩ (.int .i64 r1)).setCell ⟨g, 3, none⟩ (.int .i64 r2)) base R ps (tfMix S.ws (c1, c2) q ps.length (L.take (i + 1))) ps.length) := HGE.out ▸ M8.out.set HJM.out HNEW.out HOLD.out
        have C9 : Hid (Chg base (fun e => e = 158) w ((w8.setCell ⟨g, 2, none⟩ (.int .i64 r1)).setCell ⟨g, 3, none⟩ (.int .i64 r2))) := HGE.out ▸ ((C8.out.set (o := 2) b8 (M8.out.low j HJM.out) rfl (.int .i64 r1)).set (o := 3) (blk_set b8 2 (.int .i64 r1)) (M8.out.low j HJM.out) rfl (.int .i64 r2))
        have hgp : p ≠ g := by
          intro e
          have h1 := blk_cell b8 0
          rw [HGE.out, ← e, P8.out.c0] at h1
          simp [pileC] at h1
        have P9 : Hid (Two ((w8.setCell ⟨g, 2, none⟩ (.int .i64 r1)).setCell ⟨g, 3, none⟩ (.int .i64 r2)) p p1 p2) := two_aside (two_aside P8.out hgp _) hgp _
        clear M8 P8 C8 b8 HB8
        go_wp2
        go_roundw
        case rel => exact ⟨i + 1, by omega, by go_num, M9, P9, C9⟩
        case measure => simp [intOf]; omega
    · obtain rfl : i = len := by omega
      have e : L.take i = L := by rw [← H1.out, List.take_length]
      have hM2 := hM.out
      rw [e] at hM2
      have h1 : ¬ ((3 : TypeId) = 158) := by decide
      have HX : Hid (TS wr base T R ps lots q ⟨S.gs, tfMix S.ws (c1, c2) q ps.length L, S.s⟩ ps.length) :=
        ⟨blk_chg HT.out.blk hC.out (by decide), HT.out.low, owns_chg HT.out.piles hC.out (by decide), owns_chg HT.out.stay hC.out (by decide), owns_chg HT.out.gone hC.out (by decide), hM2⟩
      clear hM hM2
      go_wp2
      go_end0
      exact ⟨rfl, HX.out, hC.out⟩

end Go.Proofs.Ytafnmongglhlaaa

namespace Go.Proofs.Ytafnmongglhlaaa
open Go.RowKit

theorem TS.seats {w : World} {base T : Nat} {R : TR} {ps : List Pl} {lots : List Int} {q : Int} {S : TfS} {m : Nat} (h : TS w base T R ps lots q S m) (s : Nat) : TS (w.setCell ⟨T, 3, none⟩ (.int .i64 (s : Int))) base T R ps lots q ⟨S.gs, S.ws, s⟩ m := by
  refine ⟨?_, h.low, owns_set_blk h.piles h.blk (by decide), owns_set_blk h.stay h.blk (by decide), owns_set_blk h.gone h.blk (by decide), fun j hj => ?_, h.pm.low, fun j hj => owns_set_blk (h.pm.ballot j hj) h.blk (by decide), h.pm.inj⟩
  · rw [blk_set h.blk]; simp
  · have h1 := h.pm.pile j hj
    rw [blk_other]
    · exact h1
    · intro e
      rw [e, h.blk] at h1
      injection h1 with h1
      injection h1 with _ h1 _
      exact absurd h1 (by decide)
theorem there_erase {lots : List Int} {g : Int → Bool} {w : Int} (hn : lots.Nodup) : (thereL lots g).eraseIdx ((thereL lots g).idxOf w) = thereL lots (goneP g w) := by
  have hd : (thereL lots g).Nodup := hn.filter _
  rw [← List.erase_eq_eraseIdx_of_idxOf rfl, hd.erase_eq_filter]
  unfold thereL
  rw [List.filter_filter]
  refine List.filter_congr (fun z _ => ?_)
  unfold goneP
  by_cases e : z = w
  · subst e; simp
  · simp [e]
theorem TS.leave {w w2 : World} {base T x L : Nat} {R : TR} {ps : List Pl} {lots : List Int} {q : Int} {S : TfS} {m : Nat} (h : TS w base T R ps lots q S m) (hL : L = (thereL lots (tfG (S.gs.set x true))).length)
    (hst : w2.ownsRow base 3 1 (.slice (some ⟨R.gs, 0, none⟩) L R.cs) L ((thereL lots (tfG (S.gs.set x true))).map (Value.int .i64)))
    (hg : (w.setCell ⟨R.gg, x, none⟩ (.bool true)).grownBy w2 (some R.gs)) : TS (w2.setCell ⟨T, 1, none⟩ (.slice (some ⟨R.gs, 0, none⟩) L R.cs)) base T R ps lots q ⟨S.gs.set x true, S.ws, S.s⟩ m := by
  subst hL
  have hgone := h.gone.stored x (.bool true)
  rw [show (S.gs.map Value.bool).set x (.bool true) = (S.gs.set x true).map Value.bool by rw [List.map_set]] at hgone
  have hgs : ∃ cu, w.heap[R.gs]? = some (.cells cu 3 (0, 0)) := by
    rcases h.stay.2 with ⟨e, _⟩ | ⟨g1, c1, cu, e, _, hg1, _⟩
    · simp at e
    · injection e with e _ _
      injection e with e
      injection e with e _ _
      exact ⟨cu, by rw [e]; exact hg1⟩
  obtain ⟨cs, hgs⟩ := hgs
  have hgg : ∃ cu, w.heap[R.gg]? = some (.cells cu 4 (0, 0)) := by
    rcases h.gone.2 with ⟨e, _⟩ | ⟨g1, c1, cu, e, _, hg1, _⟩
    · simp at e
    · injection e with e _ _
      injection e with e
      injection e with e _ _
      exact ⟨cu, by rw [e]; exact hg1⟩
  obtain ⟨cb, hgg⟩ := hgg
  have hblk : ∀ {k : Nat} {cu : Array Value} {e : TypeId}, w.heap[k]? = some (.cells cu e (0, 0)) → e ≠ 4 → e ≠ 3 → w2.heap[k]? = some (.cells cu e (0, 0)) := fun {k cu e} hk h1 h2 => by
    have n1 : k ≠ R.gg := fun e1 => by
      rw [e1, hgg] at hk
      injection hk with hk
      injection hk with _ hk _
      exact h1 hk.symm
    have n2 : k ≠ R.gs := fun e1 => by
      rw [e1, hgs] at hk
      injection hk with hk
      injection hk with _ hk _
      exact h2 hk.symm
    rw [hg.block k (by simp [World.setCell]; exact blk_lt hk) (fun e1 => by injection e1 with e1; exact n2 e1), blk_other n1]
    exact hk
  have hT := hblk h.blk (by decide) (by decide)
  have hrow : ∀ {b n s : Nat} {e : TypeId} {v : Value} {xs : List Value}, w.ownsRow b e s v n xs → e ≠ 4 → (v.ownBlock = none ∨ v.ownBlock ≠ some R.gs) → e ≠ 115 → (w2.setCell ⟨T, 1, none⟩ (.slice (some ⟨R.gs, 0, none⟩) (thereL lots (tfG (S.gs.set x true))).length R.cs)).ownsRow b e s v n xs := fun hr h1 h2 h3 =>
    owns_set_blk ((owns_set_blk hr hgg h1).kept hg h2) hT h3
  refine ⟨?_, h.low, ?_, ?_, ?_, fun j hj => ?_, h.pm.low, fun j hj => ?_, h.pm.inj⟩
  · rw [blk_set hT]; simp
  · exact hrow h.piles (by decide) (owns_not_blk h.piles hgs (by decide)) (by decide)
  · exact owns_set_blk hst hT (by decide)
  · exact owns_set_blk (hgone.1.kept hg (owns_not_blk' hgone.1 (owns_set_blk h.stay hgg (by decide)) (by decide))) hT (by decide)
  · have h1 := hblk (h.pm.pile j hj) (by decide) (by decide)
    rw [blk_other]
    · exact h1
    · intro e
      rw [e, hT] at h1
      injection h1 with h1
      injection h1 with _ h1 _
      exact absurd h1 (by decide)
  · refine hrow (h.pm.ballot j hj) (by decide) ?_ (by decide)
    cases hb : (Value.slice (R.ba j) (parseL (tAt ps j)).length (R.bc j)).ownBlock with
    | none => exact .inl rfl
    | some k =>
      right
      intro e
      injection e with e
      have := ((h.pm.ballot j hj).lt k hb).1
      omega

end Go.Proofs.Ytafnmongglhlaaa
