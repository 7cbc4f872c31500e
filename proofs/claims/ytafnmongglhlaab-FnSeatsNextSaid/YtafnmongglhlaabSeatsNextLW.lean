/-
  laws.FnSeatsNext returns true for every code. No condition.
-/
import Derived.Test.YtafnmongglhlaabGrp1
import Derived.Test.YtafnmongglhlaabSeatY
import Derived.Test.YtafnmongglhlaabDrawSn
namespace Go.Proofs.Ytafnmongglhlaab.fnSeatsNext
open Go.RowKit
set_option linter.unusedVariables false


set_option maxRecDepth 100000 in
set_option maxHeartbeats 2000000 in
/-- The law's walk: it returns true, and writes nothing that was there. -/
theorem walk (a0 : Option Addr) (len0 cap0 : Nat) (z0 : List Int) (w : World) (w0 : IsRow .u8 w a0 len0 cap0 z0) :
    Calls Try.prog 8 #[.slice a0 len0 cap0] w fun e w' => e = .returned (.bool true) ∧ Below w.heap.size w w' := by
  by_cases hl : len0 ≤ 1048576
  · skip
    have hcap := w0.cap
    have HB := Lib.hid w0.bytes; clear w0
    go_enter Try.func8, Try.ntmps8
    go_wp2_with fail
    refine (drawNext_any a0 len0 cap0 _ _ HB.out hcap (by omega)).mono ?_
    rintro e w1 ⟨zs, av, cv, gs, ag, cg, m, lots, al, cl, rfl, ho, hz5, hog, hg5, hol, hl5, hm, hb⟩
    have B := Lib.hid hb
    obtain ⟨n, hn⟩ : ∃ n, zs.length = n := ⟨_, rfl⟩
    rw [hn] at ho hz5 ⊢
    have I := Lib.hid (IsInts.of_owned ho (by omega))
    have Hn := Lib.hid hn
    obtain ⟨ng, hng⟩ : ∃ ng, gs.length = ng := ⟨_, rfl⟩
    rw [hng] at hog hg5 ⊢
    have G := Lib.hid (IsInts.of_owned hog (by omega))
    have Hng := Lib.hid hng
    obtain ⟨nl, hnl⟩ : ∃ nl, lots.length = nl := ⟨_, rfl⟩
    rw [hnl] at hol hl5 ⊢
    have J := Lib.hid (IsInts.of_owned hol (by omega))
    have Hnl := Lib.hid hnl
    clear hb HB ho hog hol hn hng hnl
    obtain ⟨r, hr⟩ : ∃ r, nextI zs gs m lots = r := ⟨_, rfl⟩
    have HR := Lib.hid hr
    obtain ⟨v, hv⟩ : ∃ v, okN zs gs m lots = v := ⟨_, rfl⟩
    have HV := Lib.hid hv
    have hne : (r != r) = false := by simp
    have heq : (r == r) = true := by simp
    go_wp2_with fail
    refine (implNext_as _ n cv zs _ ng cg gs m _ nl cl lots r _ I.out G.out J.out HR.out).mono ?_
    rintro e w2 ⟨rfl, hb⟩
    have I := Lib.hid (I.out.below hb)
    have G := Lib.hid (G.out.below hb)
    have J := Lib.hid (J.out.below hb)
    have B := Lib.hid (B.out.trans (hb.mono B.out.size))
    clear hb
    go_wp2_with fail
    refine (specNext_as _ n cv zs _ ng cg gs m _ nl cl lots r _ I.out G.out J.out HR.out).mono ?_
    rintro e w3 ⟨rfl, hd⟩
    have hb := hd.below w2.heap.size
    have I := Lib.hid (I.out.below hb)
    have G := Lib.hid (G.out.below hb)
    have J := Lib.hid (J.out.below hb)
    have B := Lib.hid (B.out.trans (hb.mono B.out.size))
    clear hb hd
    cases v
    · skip
      obtain rfl : r = -1 := by rw [← hr, nextI_no hv]
      go_wp2
      go_ret
      exact ⟨rfl, B.out⟩
    obtain ⟨hvo, hgo, hme, hlo, hln⟩ := (okN_iff _ _ _ _).1 HV.out
    obtain ⟨hrr, hp⟩ := p87_next hv hr
    obtain ⟨g1, g2, g3⟩ := (giveB_iff _ _).1 hgo
    obtain ⟨⟨x1, x2, x3⟩, -⟩ := (voteB_iff zs).1 hvo
    rw [Hn.out] at x1 x2 x3 hrr hp g2 hln
    obtain rfl : ng = n := by rw [← Hng.out]; exact g2
    obtain rfl : nl = ng := by rw [← Hnl.out]; exact hln
    rw [g2] at g1
    obtain ⟨K, rfl⟩ := Int.eq_ofNat_of_zero_le hrr.1
    have hKn : K < nl := by omega
    have hkk : (K : Int) < (nl : Int) := by omega
    have hk0 : (0 : Int) ≤ (K : Int) := by omega
    have hkneg : decide ((K : Int) < 0) = false := decide_eq_false (by omega)
    rw [Int.toNat_natCast] at hp
    have HP := Lib.hid hp
    have X1 := Lib.hid x1
    have G1 := Lib.hid g1
    have ME := Lib.hid hme
    have HGT := Lib.hid g3
    have HGO := Lib.hid hgo
    have HVO := Lib.hid hvo
    clear hvo hgo hme hlo hln hp g1 g3 x1 hrr hr hv g2
    obtain ⟨vb, vo, rfl, hvb, hvc⟩ := I.out.2.2.2 (by omega)
    obtain ⟨gb, go, rfl, hgb, hgc⟩ := G.out.2.2.2 (by omega)
    have HVC := Lib.hid hvc
    have HGC := Lib.hid hgc
    clear hvc hgc
    go_wp2
    go_loopw [9, 10, 11] (fun iv _ _ wr => ∃ i : Nat, i ≤ nl ∧ iv = .int .i64 (i : Int) ∧ Dr w3 wr) (fun iv _ _ _ => nl - (intOf iv).toNat)
    case atStart => exact ⟨0, Nat.zero_le _, rfl, Dr.refl _⟩
    case round =>
      obtain ⟨i, hi, rfl, hd⟩ := hrel
      by_cases hlt : i < nl
      · have hii : (i : Int) < (nl : Int) := by omega
        have cvi := ((hd.below w3.heap.size).cell (p := ⟨vb, vo + i, none⟩) hvb).trans (HVC.out i hlt)
        have cvk := ((hd.below w3.heap.size).cell (p := ⟨vb, vo + K, none⟩) hvb).trans (HVC.out K hKn)
        have cgi := ((hd.below w3.heap.size).cell (p := ⟨gb, go + i, none⟩) hgb).trans (HGC.out i hlt)
        have cgk := ((hd.below w3.heap.size).cell (p := ⟨gb, go + K, none⟩) hgb).trans (HGC.out K hKn)
        have bvi := toB_at X1.out hlt
        have bvk := toB_at X1.out hKn
        have bgi := toB_at G1.out hlt
        have bgk := toB_at G1.out hKn
        have hp := HP.out i hlt
        obtain ⟨vi, evi⟩ : ∃ t, zs[i]?.getD 0 = t := ⟨_, rfl⟩
        obtain ⟨vk, evk⟩ : ∃ t, zs[K]?.getD 0 = t := ⟨_, rfl⟩
        obtain ⟨gi, egi⟩ : ∃ t, gs[i]?.getD 0 = t := ⟨_, rfl⟩
        obtain ⟨gk, egk⟩ : ∃ t, gs[K]?.getD 0 = t := ⟨_, rfl⟩
        rw [evi, evk, egi, egk] at hp
        rw [evi] at cvi bvi
        rw [evk] at cvk bvk
        rw [egi] at cgi bgi
        rw [egk] at cgk bgk
        obtain ⟨b, hb⟩ : ∃ b, befL lots (i : Int) (K : Int) = b := ⟨_, rfl⟩
        rw [hb] at hp
        have HB := Lib.hid hb
        have dgi := (divI_bound ME.out (show -1 ≤ gi ∧ gi ≤ 20 by omega)).1
        have dgk := (divI_bound ME.out (show -1 ≤ gk ∧ gk ≤ 20 by omega)).1
        have h0i : 0 ≤ m * gi := Int.mul_nonneg (by have := meth_nn ME.out; omega) bgi.1
        have h0k : 0 ≤ m * gk := Int.mul_nonneg (by have := meth_nn ME.out; omega) bgk.1
        have p1 := mul_bound (x := vk) (y := m * gi + 1) ⟨by omega, by omega⟩ ⟨by omega, by omega⟩
        have p2 := mul_bound (x := vi) (y := m * gk + 1) ⟨by omega, by omega⟩ ⟨by omega, by omega⟩
        have hw1 : IntKind.i64.wrap (m * gi) = m * gi := IntWalk.i64_in _ (by omega)
        have hw2 : IntKind.i64.wrap (m * gi + 1) = m * gi + 1 := IntWalk.i64_in _ (by omega)
        have hw3 : IntKind.i64.wrap (vk * (m * gi + 1)) = vk * (m * gi + 1) := IntWalk.i64_in _ (by omega)
        have hw4 : IntKind.i64.wrap (m * gk) = m * gk := IntWalk.i64_in _ (by omega)
        have hw5 : IntKind.i64.wrap (m * gk + 1) = m * gk + 1 := IntWalk.i64_in _ (by omega)
        have hw6 : IntKind.i64.wrap (vi * (m * gk + 1)) = vi * (m * gk + 1) := IntWalk.i64_in _ (by omega)
        have d1 : decide (vk * (m * gi + 1) < vi * (m * gk + 1)) = false := decide_eq_false (by omega)
        clear evi evk egi egk hb dgi dgk p1 p2 bvi bvk bgi bgk
        go_wp2_with fail
        go_quiet (fail)
        go_wp2_with fail
        go_quiet (fail)
        generalize hW : World.drewN _ _ = wq
        have hdq : Dr w3 wq := by rw [← hW]; exact (hd.drewN _).drewN _
        clear hW
        have JW := Lib.hid (J.out.dr hdq)
        cases d3 : (vk * (m * gi + 1) == vi * (m * gk + 1))
        · clear hp
          go_wp2
          go_roundw
          case rel => exact ⟨i + 1, by omega, by go_num, hdq⟩
          case measure => simp [intOf]; omega
        · obtain rfl : b = false := hp.2 (by simpa using d3)
          clear hp
          go_wp2_with fail
          refine (before_as _ _ _ lots (i : Int) (K : Int) false _ JW.out HB.out).mono ?_
          rintro e w9 ⟨rfl, rfl⟩
          go_wp2
          go_roundw
          case rel => exact ⟨i + 1, by omega, by go_num, hdq⟩
          case measure => simp [intOf]; omega
      · obtain rfl : i = nl := by omega
        go_wp2
        go_ret
        exact ⟨rfl, B.out.trans (hd.below _)⟩
  · clear w0
    go_enter Try.func8, Try.ntmps8
    go_wp2
    go_ret
    exact ⟨rfl, Below.refl _ _⟩

end Go.Proofs.Ytafnmongglhlaab.fnSeatsNext
