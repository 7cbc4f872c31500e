/-
  laws.FnSeatsNextCheck returns true for every code. No condition.
-/
import Derived.Test.YtafnmongglhlaabGrp1
import Derived.Test.YtafnmongglhlaabSeatY
import Derived.Test.YtafnmongglhlaabDrawSn
namespace Go.Proofs.Ytafnmongglhlaab.fnSeatsNextCheck
open Go.RowKit
set_option linter.unusedVariables false


set_option maxRecDepth 100000 in
set_option maxHeartbeats 2000000 in
/-- The law's walk: it returns true, and writes nothing that was there. -/
theorem walk (a0 : Option Addr) (len0 cap0 : Nat) (z0 : List Int) (w : World) (w0 : IsRow .u8 w a0 len0 cap0 z0) :
    Calls Try.prog 9 #[.slice a0 len0 cap0] w fun e w' => e = .returned (.bool true) ∧ Below w.heap.size w w' := by
  by_cases hl : len0 ≤ 1048576
  · skip
    have hcap := w0.cap
    have HB := Lib.hid w0.bytes; clear w0
    go_enter Try.func9, Try.ntmps9
    go_wp2_with fail
    refine (drawNext_any a0 len0 cap0 _ _ HB.out hcap (by omega)).mono ?_
    rintro e w1 ⟨zs, av, cv, gs, ag, cg, m, lots, al, cl, rfl, ho, hz5, hog, hg5, hol, hl5, hm, hb⟩
    have B := Lib.hid hb
    obtain ⟨n, hn⟩ : ∃ n, zs.length = n := ⟨_, rfl⟩
    rw [hn] at ho hz5 ⊢
    have I := Lib.hid (IsInts.of_owned ho (by omega))
    have Hn := Lib.hid hn
    obtain ⟨ng, hng⟩ : ∃ ng, gs.length = ng := ⟨_, rfl⟩
    rw [hng] at hog hg5 ⊢
    have G := Lib.hid (IsInts.of_owned hog (by omega))
    have Hng := Lib.hid hng
    obtain ⟨nl, hnl⟩ : ∃ nl, lots.length = nl := ⟨_, rfl⟩
    rw [hnl] at hol hl5 ⊢
    have J := Lib.hid (IsInts.of_owned hol (by omega))
    have Hnl := Lib.hid hnl
    clear hb HB ho hog hol hn hng hnl
    obtain ⟨r, hr⟩ : ∃ r, nextI zs gs m lots = r := ⟨_, rfl⟩
    have HR := Lib.hid hr
    obtain ⟨v, hv⟩ : ∃ v, okN zs gs m lots = v := ⟨_, rfl⟩
    have HV := Lib.hid hv
    have hne : (r != r) = false := by simp
    have heq : (r == r) = true := by simp
    go_wp2_with fail
    refine (implNext_as _ n cv zs _ ng cg gs m _ nl cl lots r _ I.out G.out J.out HR.out).mono ?_
    rintro e w2 ⟨rfl, hb⟩
    have I := Lib.hid (I.out.below hb)
    have G := Lib.hid (G.out.below hb)
    have J := Lib.hid (J.out.below hb)
    have B := Lib.hid (B.out.trans (hb.mono B.out.size))
    clear hb
    go_wp2_with fail
    refine (specNext_as _ n cv zs _ ng cg gs m _ nl cl lots r _ I.out G.out J.out HR.out).mono ?_
    rintro e w3 ⟨rfl, hd⟩
    have hb := hd.below w2.heap.size
    have I := Lib.hid (I.out.below hb)
    have G := Lib.hid (G.out.below hb)
    have J := Lib.hid (J.out.below hb)
    have B := Lib.hid (B.out.trans (hb.mono B.out.size))
    clear hb hd
    cases v
    · skip
      obtain rfl : r = -1 := by rw [← hr, nextI_no hv]
      go_wp2
      go_ret
      exact ⟨rfl, B.out⟩
    obtain ⟨hvo, hgo, hme, hlo, hln⟩ := (okN_iff _ _ _ _).1 HV.out
    obtain ⟨hrr, hp⟩ := p87_next hv hr
    obtain ⟨g1, g2, g3⟩ := (giveB_iff _ _).1 hgo
    obtain ⟨⟨x1, x2, x3⟩, -⟩ := (voteB_iff zs).1 hvo
    rw [Hn.out] at x1 x2 x3 hrr hp g2 hln
    obtain rfl : ng = n := by rw [← Hng.out]; exact g2
    obtain rfl : nl = ng := by rw [← Hnl.out]; exact hln
    rw [g2] at g1
    obtain ⟨K, rfl⟩ := Int.eq_ofNat_of_zero_le hrr.1
    have hKn : K < nl := by omega
    have hkk : (K : Int) < (nl : Int) := by omega
    have hk0 : (0 : Int) ≤ (K : Int) := by omega
    have hkneg : decide ((K : Int) < 0) = false := decide_eq_false (by omega)
    rw [Int.toNat_natCast] at hp
    have HP := Lib.hid hp
    have X1 := Lib.hid x1
    have G1 := Lib.hid g1
    have ME := Lib.hid hme
    have HGT := Lib.hid g3
    have HGO := Lib.hid hgo
    have HVO := Lib.hid hvo
    clear hvo hgo hme hlo hln hp g1 g3 x1 hrr hr hv g2
    obtain ⟨i0, hi0, hz0, hz1, hz2⟩ := info_parts int_info
    obtain ⟨gb, go, rfl, hgb, hgc⟩ := G.out.2.2.2 (by omega)
    have HGC := Lib.hid hgc
    clear hgc
    have hE := Lib.hid (World.ownsRow_lit (base := w3.heap.size) (e := 3) (size := 1) w3 #[] 0 (Nat.le_refl _) (by unfold maxLen; omega) rfl)
    have L1 : Hid ((gs.map (Value.int .i64)).length = nl * 1) := by have h1 := G.out.1; unfold Hid; rw [List.length_map, h1]; omega
    have P1 : Hid (∀ j u, (gs.map (Value.int .i64))[j]? = some u → (w3.alloc (.cells #[] 3)).cell? ((⟨gb, go, none⟩ : Addr).add j) = some u) := by
      have := piece_rest (w := w3.alloc (.cells #[] 3)) (b := gb) (off := go) (len := nl) (zs := gs) G.out.1 (fun j hj => (((Below.refl w3.heap.size w3).alloc (Nat.le_refl _) _).cell (p := ⟨gb, go + j, none⟩) hgb).trans (HGC.out j hj)) 0 go (Nat.zero_le _) rfl
      rw [List.drop_zero] at this
      exact this
    have M1 : 0 + nl ≤ maxLen := by unfold maxLen; omega
    have N1 : (0 + nl) * 8 ≤ 140737488355328 := by omega
    have S1 : w3.heap.size ≤ (w3.alloc (.cells #[] 3)).heap.size := by simp
    obtain ⟨z, hz⟩ : ∃ z, gs[K]?.getD 0 = z := ⟨_, rfl⟩
    have HZ := Lib.hid hz
    have bz := toB_at G1.out hKn
    rw [hz] at bz
    clear hz
    have hw1 : IntKind.i64.wrap (z + 1) = z + 1 := IntWalk.i64_in _ (by omega)
    go_wp2_with (at_builtin; refine wpList_append_own _ rfl _ _ 23 rfl w3.heap.size 3 i0 (.int .i64 0) 1 8 Try.underlying23 hi0 hz0 hz1 hz2 rfl (by decide) _ _ _ rfl hE.out ⟨gb, go, none⟩ nl cg (gs.map (Value.int .i64)) rfl L1.out P1.out (ints_one _) M1 N1 S1 ?_; intro v' w7 hown' hgrow _; simp only [Nat.zero_add, List.nil_append] at hown'; obtain ⟨g4, c4, rfl⟩ := owns_some hown' (by omega); have q0 := owns_int hown' G.out.1 hKn HZ.out; have f0 : w7.frozen? ⟨g4, K, none⟩ = false := hown'.frozenAt K)
    have HB7 : Hid (Below w3.heap.size w3 w7) := ((Below.refl _ _).alloc (Nat.le_refl _) (.cells #[] 3)).grown hgrow S1 (fun j e => by
      have e : some w3.heap.size = some j := e
      injection e with e
      omega)
    have HO7 := Lib.hid hown'
    have HST := Lib.hid (HO7.out.stored K (.int .i64 (z + 1)))
    have hg4 : w3.heap.size ≤ g4 := (HO7.out.lt g4 rfl).1
    have HO8 : Hid ((w7.setCell ⟨g4, K, none⟩ (.int .i64 (z + 1))).ownsRow w3.heap.size 3 1 (.slice (some ⟨g4, 0, none⟩) nl c4) nl ((gs.set K (z + 1)).map (Value.int .i64))) := by
      unfold Hid; rw [← map_set_int]; exact HST.out.1
    have HB8 : Hid (Below w3.heap.size w3 (w7.setCell ⟨g4, K, none⟩ (.int .i64 (z + 1)))) := HB7.out.grown HST.out.2 HB7.out.size (fun j e => by cases e; exact hg4)
    clear hown' hgrow HST hE L1 P1 M1 N1 S1 HB7 HO7
    have I8 := Lib.hid (I.out.below HB8.out)
    have G8 := Lib.hid (G.out.below HB8.out)
    have X8 := Lib.hid (IsInts.of_owned HO8.out (by omega))
    have B8 := Lib.hid (B.out.trans (HB8.out.mono B.out.size))
    clear HO8 q0 f0
    obtain ⟨c1, hc1⟩ : ∃ c1, checkB zs gs m = c1 := ⟨_, rfl⟩
    have C1 := Lib.hid hc1
    obtain ⟨t, ht⟩ : ∃ t, totI gs = t := ⟨_, rfl⟩
    have HT := Lib.hid ht
    have HSB : Hid (∀ x : Nat, x < nl → 0 ≤ gs[x]?.getD 0 ∧ gs[x]?.getD 0 ≤ 100000) := fun x hx => by have := toB_at G1.out hx; omega
    have HKP : Hid (c1 = true → t ≠ 20 → checkB zs (gs.set K (z + 1)) m = true) := fun e1 e2 => by
      have := p88_keeps HV.out HR.out (by rw [C1.out]; exact e1) (by rw [HT.out]; exact e2)
      rw [Int.toNat_natCast, HZ.out] at this
      exact this
    clear hc1 ht
    go_wp2_with fail
    refine (implCheck_as _ nl cv zs _ nl cg gs m c1 _ I8.out G8.out C1.out).mono ?_
    rintro e w9 ⟨rfl, hb⟩
    have I9 := Lib.hid (I8.out.below hb)
    have G9 := Lib.hid (G8.out.below hb)
    have X9 := Lib.hid (X8.out.below hb)
    have B9 := Lib.hid (B8.out.trans (hb.mono B8.out.size))
    clear hb
    cases c1
    · go_wp2
      go_ret
      exact ⟨rfl, B9.out⟩
    go_wp2_with fail
    refine (lawSum_as _ nl cg gs t _ G9.out (by omega) HSB.out HT.out).mono ?_
    rintro e w10 ⟨rfl, rfl⟩
    by_cases ht20 : t = 20
    · have e20 : (t == 20) = true := by simpa using ht20
      clear ht20
      go_wp2
      go_ret
      exact ⟨rfl, B9.out⟩
    · have e20 : (t == 20) = false := by simpa using ht20
      have HC2 := Lib.hid (HKP.out (by trivial) ht20)
      clear ht20
      go_wp2_with fail
      refine (implCheck_as _ nl cv zs _ nl c4 (gs.set K (z + 1)) m true _ I9.out X9.out HC2.out).mono ?_
      rintro e w11 ⟨rfl, hb⟩
      go_wp2
      go_ret
      exact ⟨rfl, B9.out.trans (hb.mono B9.out.size)⟩
  · clear w0
    go_enter Try.func9, Try.ntmps9
    go_wp2
    go_ret
    exact ⟨rfl, Below.refl _ _⟩

end Go.Proofs.Ytafnmongglhlaab.fnSeatsNextCheck
