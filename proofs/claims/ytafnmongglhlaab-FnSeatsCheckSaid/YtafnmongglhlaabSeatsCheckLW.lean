/-
  laws.FnSeatsCheck returns true for every two codes. No condition.
-/
import Derived.Test.YtafnmongglhlaabGrp1
import Derived.Test.YtafnmongglhlaabSeatY
import Derived.Test.YtafnmongglhlaabDrawSn
namespace Go.Proofs.Ytafnmongglhlaab.fnSeatsCheck
open Go.RowKit
set_option linter.unusedVariables false

theorem own_set {w : World} {base n g c : Nat} {gl : List Int} (h : w.ownsRow base 3 1 (.slice (some ⟨g, 0, none⟩) n c) n (gl.map (Value.int .i64))) (i : Nat) (z : Int) : (w.setCell ⟨g, i, none⟩ (.int .i64 z)).ownsRow base 3 1 (.slice (some ⟨g, 0, none⟩) n c) n ((gl.set i z).map (Value.int .i64)) ∧ w.grownBy (w.setCell ⟨g, i, none⟩ (.int .i64 z)) (some g) := by
  have := h.stored i (.int .i64 z)
  rw [← map_set_int]
  exact this
set_option maxRecDepth 100000 in
set_option maxHeartbeats 2000000 in
/-- The law's walk: it returns true, and writes nothing that was there. -/
theorem walk (a0 : Option Addr) (len0 cap0 : Nat) (z0 : List Int) (a1 : Option Addr) (len1 cap1 : Nat) (z1 : List Int) (w : World) (w0 : IsRow .u8 w a0 len0 cap0 z0) (w1 : IsRow .u8 w a1 len1 cap1 z1) :
    Calls Try.prog 10 #[.slice a0 len0 cap0, .slice a1 len1 cap1] w fun e w' => e = .returned (.bool true) ∧ Below w.heap.size w w' := by
  by_cases hl : len0 ≤ 1048576 ∧ len1 ≤ 1048576
  · obtain ⟨hl, hl1⟩ := hl
    have hl1i : decide ((1048576 : Int) < (len1 : Int)) = false := decide_eq_false (by omega)
    have hcap := w0.cap
    have HB := Lib.hid w0.bytes; clear w0 w1
    go_enter Try.func10, Try.ntmps10
    go_wp2_with fail
    refine (drawCheck_any a0 len0 cap0 _ _ HB.out hcap (by omega)).mono ?_
    rintro e w1 ⟨zs, av, cv, gs, ag, cg, m, rfl, ho, hz5, hog, hg5, hm, hb⟩
    have B := Lib.hid hb
    obtain ⟨n, hn⟩ : ∃ n, zs.length = n := ⟨_, rfl⟩
    rw [hn] at ho hz5 ⊢
    have I := Lib.hid (IsInts.of_owned ho (by omega))
    have Hn := Lib.hid hn
    obtain ⟨ng, hng⟩ : ∃ ng, gs.length = ng := ⟨_, rfl⟩
    rw [hng] at hog hg5 ⊢
    have G := Lib.hid (IsInts.of_owned hog (by omega))
    have Hng := Lib.hid hng
    clear hb HB ho hog hn hng
    obtain ⟨v, hv⟩ : ∃ v, checkB zs gs m = v := ⟨_, rfl⟩
    have HV := Lib.hid hv
    clear hv
    have hne : (v != v) = false := by cases v <;> rfl
    have heq : (v == v) = true := by cases v <;> rfl
    go_wp2_with fail
    refine (implCheck_as _ n cv zs _ ng cg gs m v _ I.out G.out HV.out).mono ?_
    rintro e w2 ⟨rfl, hb⟩
    have I := Lib.hid (I.out.below hb)
    have G := Lib.hid (G.out.below hb)
    have B := Lib.hid (B.out.trans (hb.mono B.out.size))
    clear hb
    go_wp2_with fail
    refine (specCheck_as _ n cv zs _ ng cg gs m v _ I.out G.out HV.out).mono ?_
    rintro e w3 ⟨rfl, hd⟩
    have hb := hd.below w2.heap.size
    have I := Lib.hid (I.out.below hb)
    have G := Lib.hid (G.out.below hb)
    have B := Lib.hid (B.out.trans (hb.mono B.out.size))
    clear hb hd
    cases v
    · skip
      go_wp2
      go_ret
      exact ⟨rfl, B.out⟩
    have o1 : okC zs gs m = true := by have := HV.out; unfold checkB at this; simp only [Bool.and_eq_true] at this; exact this.1
    obtain ⟨hvo, hgo, hme⟩ := (okC_iff _ _ _).1 o1
    obtain ⟨g1, g2, g3⟩ := (giveB_iff _ _).1 hgo
    obtain ⟨⟨x1, x2, x3⟩, -⟩ := (voteB_iff zs).1 hvo
    rw [Hn.out] at x1 x2 x3 g2
    obtain rfl : ng = n := by rw [← Hng.out]; exact g2
    rw [g2] at g1
    have X1 := Lib.hid x1
    have G1 := Lib.hid g1
    have ME := Lib.hid hme
    clear o1 hvo hgo hme g1 g2 g3 x1 hne heq
    obtain ⟨i, hin, hie⟩ : ∃ x : Nat, x < ng ∧ (len1 : Int) % (ng : Int) = (x : Int) := ⟨len1 % ng, Nat.mod_lt _ (by omega), by push_cast; rfl⟩
    obtain ⟨d, hde⟩ : ∃ d : Nat, (len1 : Int) / 7 = (d : Int) := ⟨len1 / 7, by push_cast; rfl⟩
    obtain ⟨k, hkn, hke⟩ : ∃ y : Nat, y < ng ∧ (d : Int) % (ng : Int) = (y : Int) := ⟨d % ng, Nat.mod_lt _ (by omega), by push_cast; rfl⟩
    have hnz : ((ng : Int) == 0) = false := beq_eq_false_iff_ne.2 (by omega)
    have hdn : (len1 : Int).tdiv 7 = (d : Int) := by rw [Int.tdiv_eq_ediv_of_nonneg (by omega)]; exact hde
    have hxt : (len1 : Int).tmod (ng : Int) = (i : Int) := by rw [Int.tmod_eq_emod_of_nonneg (by omega)]; exact hie
    have hyt : (d : Int).tmod (ng : Int) = (k : Int) := by rw [Int.tmod_eq_emod_of_nonneg (by omega)]; exact hke
    have hdb : 0 ≤ (d : Int) ∧ (d : Int) ≤ 1048576 := by omega
    have hii : (i : Int) < (ng : Int) := by omega
    have hkk : (k : Int) < (ng : Int) := by omega
    obtain ⟨gb, go, rfl, hgb, hgc⟩ := G.out.2.2.2 (by omega)
    have HGC := Lib.hid hgc
    clear hgc hie hde hke
    have cgi := HGC.out i hin
    have bgi := toB_at G1.out hin
    have bgk := toB_at G1.out hkn
    have bvi := toB_at X1.out hin
    have bvk := toB_at X1.out hkn
    obtain ⟨gi, egi⟩ : ∃ t, gs[i]?.getD 0 = t := ⟨_, rfl⟩
    obtain ⟨gk, egk⟩ : ∃ t, gs[k]?.getD 0 = t := ⟨_, rfl⟩
    obtain ⟨vi, evi⟩ : ∃ t, zs[i]?.getD 0 = t := ⟨_, rfl⟩
    obtain ⟨vk, evk⟩ : ∃ t, zs[k]?.getD 0 = t := ⟨_, rfl⟩
    rw [egi] at bgi cgi
    rw [egk] at bgk
    rw [evi] at bvi
    rw [evk] at bvk
    by_cases hik : i = k
    · have e0 : ((i : Int) == (k : Int)) = true := by simp; omega
      clear egi egk evi evk
      go_wp2
      go_ret
      exact ⟨rfl, B.out⟩
    have e0 : ((i : Int) == (k : Int)) = false := by simp; omega
    by_cases hg0 : gi = 0
    · have e1 : (gi == 0) = true := by simpa using hg0
      clear egi egk evi evk hg0
      go_wp2
      go_ret
      exact ⟨rfl, B.out⟩
    have e1 : (gi == 0) = false := by simpa using hg0
    have hsk : (gs.set i (gi - 1))[k]?.getD 0 = gk := by rw [List.getElem?_set_ne hik, egk]
    have HSK := Lib.hid hsk
    have HSL : Hid ((gs.set i (gi - 1)).length = ng) := by unfold Hid; rw [List.length_set]; exact Hng.out
    have HMV : Hid (checkB zs ((gs.set i (gi - 1)).set k (gk + 1)) m = true → vi * (m * gk + 1) = vk * (m * (gi - 1) + 1)) := fun h2 => by
      have := p89_move HV.out (i := i) (k := k) (by rw [Hn.out]; exact hin) (by rw [Hn.out]; exact hkn) hik (by rw [egi]; exact hg0) (by rw [egi, egk]; exact h2)
      rw [egi, egk, evi, evk] at this
      exact this
    have EGI := Lib.hid egi
    have EGK := Lib.hid egk
    have EVI := Lib.hid evi
    have EVK := Lib.hid evk
    have dgi := (divI_bound ME.out (show -1 ≤ gi - 1 ∧ gi - 1 ≤ 20 by omega)).1
    have dgk := (divI_bound ME.out (show -1 ≤ gk ∧ gk ≤ 20 by omega)).1
    have h0i : 0 ≤ m * (gi - 1) := Int.mul_nonneg (by have := meth_nn ME.out; omega) (by omega)
    have h0k : 0 ≤ m * gk := Int.mul_nonneg (by have := meth_nn ME.out; omega) bgk.1
    have p1 := mul_bound (x := vi) (y := m * gk + 1) ⟨by omega, by omega⟩ ⟨by omega, by omega⟩
    have p2 := mul_bound (x := vk) (y := m * (gi - 1) + 1) ⟨by omega, by omega⟩ ⟨by omega, by omega⟩
    have hw0 : IntKind.i64.wrap (gi - 1) = gi - 1 := IntWalk.i64_in _ (by omega)
    have hw00 : IntKind.i64.wrap (gk + 1) = gk + 1 := IntWalk.i64_in _ (by omega)
    have hw1 : IntKind.i64.wrap (m * gk) = m * gk := IntWalk.i64_in _ (by omega)
    have hw2 : IntKind.i64.wrap (m * gk + 1) = m * gk + 1 := IntWalk.i64_in _ (by omega)
    have hw3 : IntKind.i64.wrap (vi * (m * gk + 1)) = vi * (m * gk + 1) := IntWalk.i64_in _ (by omega)
    have hw4 : IntKind.i64.wrap (m * (gi - 1)) = m * (gi - 1) := IntWalk.i64_in _ (by omega)
    have hw5 : IntKind.i64.wrap (m * (gi - 1) + 1) = m * (gi - 1) + 1 := IntWalk.i64_in _ (by omega)
    have hw6 : IntKind.i64.wrap (vk * (m * (gi - 1) + 1)) = vk * (m * (gi - 1) + 1) := IntWalk.i64_in _ (by omega)
    clear egi egk evi evk hsk dgi dgk p1 p2 hg0
    obtain ⟨i0, hi0, hz0, hz1, hz2⟩ := info_parts int_info
    have hE := Lib.hid (World.ownsRow_lit (base := w3.heap.size) (e := 3) (size := 1) w3 #[] 0 (Nat.le_refl _) (by unfold maxLen; omega) rfl)
    have L1 : Hid ((gs.map (Value.int .i64)).length = ng * 1) := by have h1 := G.out.1; unfold Hid; rw [List.length_map, h1]; omega
    have P1 : Hid (∀ j u, (gs.map (Value.int .i64))[j]? = some u → (w3.alloc (.cells #[] 3)).cell? ((⟨gb, go, none⟩ : Addr).add j) = some u) := by
      have := piece_rest (w := w3.alloc (.cells #[] 3)) (b := gb) (off := go) (len := ng) (zs := gs) G.out.1 (fun j hj => (((Below.refl w3.heap.size w3).alloc (Nat.le_refl _) _).cell (p := ⟨gb, go + j, none⟩) hgb).trans (HGC.out j hj)) 0 go (Nat.zero_le _) rfl
      rw [List.drop_zero] at this
      exact this
    have M1 : 0 + ng ≤ maxLen := by unfold maxLen; omega
    have N1 : (0 + ng) * 8 ≤ 140737488355328 := by omega
    have S1 : w3.heap.size ≤ (w3.alloc (.cells #[] 3)).heap.size := by simp
    go_wp2_with (at_builtin; refine wpList_append_own _ rfl _ _ 23 rfl w3.heap.size 3 i0 (.int .i64 0) 1 8 Try.underlying23 hi0 hz0 hz1 hz2 rfl (by decide) _ _ _ rfl hE.out ⟨gb, go, none⟩ ng cg (gs.map (Value.int .i64)) rfl L1.out P1.out (ints_one _) M1 N1 S1 ?_; intro v' w7 hown' hgrow _; simp only [Nat.zero_add, List.nil_append] at hown'; obtain ⟨g4, c4, rfl⟩ := owns_some hown' (by omega); have q0 := owns_int hown' G.out.1 hin EGI.out; have f0 : w7.frozen? ⟨g4, i, none⟩ = false := hown'.frozenAt i; have HOa := own_set hown' i (gi - 1); have q1 := owns_int HOa.1 HSL.out hkn HSK.out; have f1 := HOa.1.frozenAt k)
    have HB7 : Hid (Below w3.heap.size w3 w7) := ((Below.refl _ _).alloc (Nat.le_refl _) (.cells #[] 3)).grown hgrow S1 (fun j e => by
      have e : some w3.heap.size = some j := e
      injection e with e
      omega)
    have hg4 : w3.heap.size ≤ g4 := (hown'.lt g4 rfl).1
    have HOb := own_set HOa.1 k (gk + 1)
    have HB8 : Hid (Below w3.heap.size w3 (w7.setCell ⟨g4, i, none⟩ (.int .i64 (gi - 1)))) := HB7.out.grown HOa.2 HB7.out.size (fun j e => by cases e; exact hg4)
    have HB9 : Hid (Below w3.heap.size w3 ((w7.setCell ⟨g4, i, none⟩ (.int .i64 (gi - 1))).setCell ⟨g4, k, none⟩ (.int .i64 (gk + 1)))) := HB8.out.grown HOb.2 HB8.out.size (fun j e => by cases e; exact hg4)
    have I9 := Lib.hid (I.out.below HB9.out)
    have G9 := Lib.hid (G.out.below HB9.out)
    have X9 := Lib.hid (IsInts.of_owned HOb.1 (by omega))
    have B9 := Lib.hid (B.out.trans (HB9.out.mono B.out.size))
    clear hown' hgrow hE L1 P1 M1 N1 S1 HB7 HB8 HOa HOb q0 f0 q1 f1
    generalize hW9 : World.setCell _ _ _ = w9 at *
    clear hW9
    obtain ⟨vb, vo, rfl, hvb, hvc⟩ := I9.out.2.2.2 (by omega)
    have cvi := hvc i hin
    have cvk := hvc k hkn
    rw [EVI.out] at cvi
    rw [EVK.out] at cvk
    have hgb9 : gb < w9.heap.size := Nat.lt_of_lt_of_le hgb HB9.out.size
    have dgk' := (HB9.out.cell (p := ⟨gb, go + k, none⟩) hgb).trans (HGC.out k hkn)
    have dgi' := (HB9.out.cell (p := ⟨gb, go + i, none⟩) hgb).trans (HGC.out i hin)
    rw [EGK.out] at dgk'
    rw [EGI.out] at dgi'
    have cvk' : w9.cell? ⟨vb, vo + k, none⟩ = some (.int .i64 vk) := cvk
    obtain ⟨c2, hc2⟩ : ∃ c2, checkB zs ((gs.set i (gi - 1)).set k (gk + 1)) m = c2 := ⟨_, rfl⟩
    have HC2 := Lib.hid hc2
    rw [hc2] at HMV
    clear hvc hc2
    go_wp2_with fail
    go_quiet (fail)
    generalize hq1 : World.drewN w9 _ = wq
    have hd1 : Dr w9 wq := ⟨_, hq1.symm⟩
    have cvk2 := ((hd1.below w9.heap.size).cell (p := ⟨vb, vo + k, none⟩) hvb).trans cvk
    have cgi2 := ((hd1.below w9.heap.size).cell (p := ⟨gb, go + i, none⟩) hgb9).trans dgi'
    clear hq1 cvi cvk cvk' dgk' dgi' cgi
    go_wp2_with fail
    go_quiet (fail)
    generalize hq2 : World.drewN wq _ = wr
    have hd2 : Dr w9 wr := hd1.trans ⟨_, hq2.symm⟩
    clear hq2 cvk2 cgi2
    have I10 := Lib.hid (I9.out.dr hd2)
    have X10 := Lib.hid (X9.out.dr hd2)
    have B10 := Lib.hid (B9.out.trans (hd2.below _))
    go_wp2_with fail
    refine (implCheck_as _ ng cv zs _ ng c4 _ m c2 _ I10.out X10.out HC2.out).mono ?_
    rintro e w11 ⟨rfl, hb⟩
    cases c2
    · go_wp2
      go_ret
      exact ⟨rfl, B10.out.trans (hb.mono B10.out.size)⟩
    · have hab : (vi * (m * gk + 1) == vk * (m * (gi - 1) + 1)) = true := by rw [HMV.out (by trivial)]; simp
      go_wp2
      go_ret
      exact ⟨rfl, B10.out.trans (hb.mono B10.out.size)⟩
  · clear w0 w1
    go_enter Try.func10, Try.ntmps10
    go_wp2
    all_goals
      go_ret
      exact ⟨rfl, Below.refl _ _⟩

end Go.Proofs.Ytafnmongglhlaab.fnSeatsCheck
