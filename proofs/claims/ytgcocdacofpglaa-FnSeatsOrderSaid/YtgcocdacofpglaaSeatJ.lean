/-
  impl's newSeating, quotient and quotients: contracts. They write into no memory that was there.
-/
import Derived.Test.YtgcocdacofpglaaGrp9
import Derived.Deep.RegionHeld3
namespace Go.Proofs.Ytgcocdacofpglaa
open Go.RowKit

attribute [local go_sem] Oper.semAt_some

/-- What parties have, in memory: votes, given seats, a method. -/
structure Sit (w : World) (T : Nat) (a : Option Addr) (n cap : Nat) (vs : List Int) (a' : Option Addr) (cap' : Nat) (gs : List Int) (m : Int) : Prop where
  lt : T < w.heap.size
  c0 : w.cell? ⟨T, 0, none⟩ = some (.slice a n cap)
  c1 : w.cell? ⟨T, 1, none⟩ = some (.slice a' n cap')
  c2 : w.cell? ⟨T, 2, none⟩ = some (methV m)
  votes : IsInts w a n cap vs
  given : IsInts w a' n cap' gs
theorem Sit.below {w w' : World} {T : Nat} {a : Option Addr} {n cap : Nat} {vs : List Int} {a' : Option Addr} {cap' : Nat} {gs : List Int} {m : Int} (h : Sit w T a n cap vs a' cap' gs m) (hb : Below w.heap.size w w') : Sit w' T a n cap vs a' cap' gs m :=
  ⟨Nat.lt_of_lt_of_le h.lt hb.size, (hb.cell (p := ⟨T, 0, none⟩) h.lt).trans h.c0, (hb.cell (p := ⟨T, 1, none⟩) h.lt).trans h.c1, (hb.cell (p := ⟨T, 2, none⟩) h.lt).trans h.c2, h.votes.below hb, h.given.below hb⟩

set_option maxHeartbeats 2000000 in
/-- **newSeating**. -/
theorem newSeat_as (a : Option Addr) (n cap : Nat) (vs : List Int) (a' : Option Addr) (n' cap' : Nat) (gs : List Int) (m : Int) (v : Bool) (w : World) (h : IsInts w a n cap vs) (h' : IsInts w a' n' cap' gs) (hv : okC vs gs m = v) :
    Calls Try.prog 27 #[.slice a n cap, .slice a' n' cap', .int .i64 m] w fun e w' => ∃ p, e = .returned (.tuple #[.pointer p, .bool v]) ∧ Below w.heap.size w w' ∧ (v = true → n' = n ∧ ∃ T, p = some ⟨T, 0, none⟩ ∧ w.heap.size ≤ T ∧ Sit w' T a n cap vs a' cap' gs m) := by
  have H1 := Lib.hid h
  have H2 := Lib.hid h'
  have hn := h.1
  have hm1 := h.2.2.1
  obtain ⟨v1, hv1⟩ : ∃ v, voteB vs = v := ⟨_, rfl⟩
  obtain ⟨v2, hv2⟩ : ∃ v, giveB gs n = v := ⟨_, rfl⟩
  obtain ⟨v3, hv3⟩ : ∃ v, methB m = v := ⟨_, rfl⟩
  have HO : Hid (v = (v1 && (v2 && v3))) := by unfold Hid; rw [← hv]; unfold okC; rw [hv1, hn, hv2, hv3]
  have V1 := Lib.hid hv1
  have V2 := Lib.hid hv2
  have V3 := Lib.hid hv3
  have HN := Lib.hid hn
  clear h h' hv hv1 hv2 hv3 hn
  go_enter Try.func27, Try.ntmps27
  go_wp2_with fail
  refine (methOf_as m v3 _ V3.out).mono ?_
  rintro e w1 ⟨rfl, hb⟩
  have B1 := Lib.hid hb
  have H1' := Lib.hid (H1.out.below hb)
  have H2' := Lib.hid (H2.out.below hb)
  clear hb
  obtain ⟨mv, hmv⟩ : ∃ mv, methV m = mv := ⟨_, rfl⟩
  have HMV := Lib.hid hmv
  rw [hmv]
  clear hmv
  cases v3
  · have HF : Hid (v = false) := by rw [Hid, HO.out]; simp
    go_wp2
    go_ret2
    exact ⟨none, by rw [HF.out]; rfl, B1.out, fun e => by rw [HF.out] at e; cases e⟩
  go_wp2_with fail
  refine (votes_as _ _ _ vs v1 _ H1'.out V1.out).mono ?_
  rintro e w2 ⟨rfl, rfl⟩
  cases v1
  · have HF : Hid (v = false) := by rw [Hid, HO.out]; simp
    go_wp2
    go_ret2
    exact ⟨none, by rw [HF.out]; rfl, B1.out, fun e => by rw [HF.out] at e; cases e⟩
  have hn5 : 1 ≤ n ∧ n ≤ 5 := by
    obtain ⟨⟨_, x2, x3⟩, _⟩ := (voteB_iff vs).1 V1.out
    rw [HN.out] at x2 x3
    exact ⟨x2, x3⟩
  go_wp2_with fail
  refine (given_as _ _ _ gs n v2 _ H2'.out hn5 V2.out).mono ?_
  rintro e w2 ⟨rfl, rfl⟩
  cases v2
  · have HF : Hid (v = false) := by rw [Hid, HO.out]; simp
    go_wp2
    go_ret2
    exact ⟨none, by rw [HF.out]; rfl, B1.out, fun e => by rw [HF.out] at e; cases e⟩
  have HF : Hid (v = true) := by rw [Hid, HO.out]; rfl
  have hnn : n' = n := by
    obtain ⟨_, g2, _⟩ := (giveB_iff gs n).1 V2.out
    rw [← g2]; exact H2.out.1.symm
  subst hnn
  obtain ⟨t, rfl⟩ : ∃ t, mv = .iface t (.agg #[]) := by
    rw [← HMV.out]
    rcases (methB_iff m).1 V3.out with e | e <;> subst e <;> exact ⟨_, rfl⟩
  obtain ⟨wx, hwx⟩ : ∃ wx, w1.alloc (.cells #[.slice a n' cap, .slice a' n' cap', .iface t (.agg #[])] 49) = wx := ⟨_, rfl⟩
  have hbx : Below w1.heap.size w1 wx := by rw [← hwx]; exact (Below.refl _ _).alloc (Nat.le_refl _) _
  have HS : Hid (Sit wx w1.heap.size a n' cap vs a' cap' gs m) := by
    refine ⟨by rw [← hwx]; simp, ?_, ?_, ?_, H1'.out.below hbx, H2'.out.below hbx⟩
    · rw [← hwx]; exact World.cell?_alloc_new w1 _ _ 0
    · rw [← hwx]; exact World.cell?_alloc_new w1 _ _ 1
    · rw [← hwx, HMV.out]; exact World.cell?_alloc_new w1 _ _ 2
  have BX := Lib.hid (below_on B1.out hbx)
  clear hbx
  go_wp2
  go_ret2
  exact ⟨_, by rw [HF.out]; rfl, BX.out, fun _ => ⟨_, rfl, B1.out.size, HS.out⟩⟩

set_option maxRecDepth 100000 in
set_option maxHeartbeats 8000000 in
/-- **quotient**. -/
theorem quot_as (T : Nat) (a : Option Addr) (n cap : Nat) (vs : List Int) (a' : Option Addr) (cap' : Nat) (gs : List Int) (m : Int) (p : Nat) (g x y : Int) (w : World) (h : Sit w T a n cap vs a' cap' gs m) (hp : p < n) (hm : methB m = true) (hv : 0 ≤ vs[p]?.getD 0 ∧ vs[p]?.getD 0 ≤ 99) (hg : 0 ≤ g ∧ g ≤ 20) (hq : ofF (vs[p]?.getD 0) (divI m g) = (x, y)) :
    Calls Try.prog 36 #[.pointer (some ⟨T, 0, none⟩), .int .i64 (p : Int), .int .i64 g] w fun e w' => e = .returned (.agg #[.int .i64 x, .int .i64 y]) ∧ Below w.heap.size w w' := by
  obtain ⟨vb, vo, rfl, hvb, hvc⟩ := h.votes.2.2.2 (by omega)
  have cv := hvc p hp
  obtain ⟨z, hz⟩ : ∃ z, vs[p]?.getD 0 = z := ⟨_, rfl⟩
  rw [hz] at cv hv hq
  obtain ⟨d, hd⟩ : ∃ d, divI m g = d := ⟨_, rfl⟩
  have hdr := divI_in hm hg
  rw [hd] at hdr hq
  have HOK : Hid (ofOk z d = true) := quot_ok hv hdr
  have HPF : Hid (ofR z d = (x, y)) := by unfold Hid; rw [(quot_fr hv hdr).1, hq]
  have htl := h.lt
  have hpn : (p : Int) < (n : Int) := by omega
  have B0 : Hid (Below w.heap.size w (w.alloc (.cells #[.int .i64 0, .int .i64 0] 56))) := (Below.refl _ w).alloc (Nat.le_refl _) _
  have c0 := h.c0
  have c2 := h.c2
  clear h hvc hz hq hv hdr
  rcases (methB_iff m).1 hm with rfl | rfl
  · have HD := Lib.hid hd
    have c2 : w.cell? ⟨T, 2, none⟩ = some (.iface 72 (.agg #[])) := c2
    have k0 := (B0.out.cell (p := ⟨T, 0, none⟩) htl).trans c0
    have k2 := (B0.out.cell (p := ⟨T, 2, none⟩) htl).trans c2
    have kv := (B0.out.cell (p := ⟨vb, vo + p, none⟩) hvb).trans cv
    have htl1 : T < (w.alloc (.cells #[.int .i64 0, .int .i64 0] 56)).heap.size := Nat.lt_of_lt_of_le htl B0.out.size
    have hvb1 : vb < (w.alloc (.cells #[.int .i64 0, .int .i64 0] 56)).heap.size := Nat.lt_of_lt_of_le hvb B0.out.size
    have T0 := Lib.hid (Two.new w 0 0 56)
    clear hd hm c0 c2 cv
    go_enter Try.func36, Try.ntmps36
    go_upto_region 1 with fail
    generalize hW0 : w.alloc (.cells #[.int .i64 0, .int .i64 0] 56) = W0 at *
    have HW0 := Lib.hid hW0
    clear hW0
    go_cut [7, 8] from 9 to 26 (fun s6 s7 wx => MadeB W0 x y true s6 s7 wx)
    case first =>
      have q0 := World.new_ne W0 ⟨T, 0, none⟩ k0
      have q1 := World.new_ne W0 ⟨T, 2, none⟩ k2
      have q2 := World.new_ne W0 ⟨vb, vo + p, none⟩ kv
      go_region_held3 (fun w' => w'.cell? ⟨T, 0, none⟩ = some (.slice (some ⟨vb, vo, none⟩) n cap) ∧ w'.cell? ⟨T, 2, none⟩ = some (.iface 72 (.agg #[])) ∧ w'.cell? ⟨vb, vo + p, none⟩ = some (.int .i64 z)) (go_keep)
        (first
          | (go_at_call 76; refine (divOne_as g d _ hg HD.out).mono ?_; rintro e w3 ⟨rfl, hb0⟩; have hb9 := below_drew hb0; (first | (have N3 := Lib.hid ((Two.new W0 0 0 56).below hb9); have C3 := Lib.hid (below_on (below_more (Below.refl _ W0) (.cells #[.int .i64 0, .int .i64 0] 56)) hb9); clear hb9 hb0) | (have C3 := Lib.hid (below_on (Below.refl _ W0) hb9); clear hb9 hb0)); have s0 := (C3.out.cell (p := ⟨T, 0, none⟩) htl1).trans k0; have s1 := (C3.out.cell (p := ⟨T, 2, none⟩) htl1).trans k2; have s2 := (C3.out.cell (p := ⟨vb, vo + p, none⟩) hvb1).trans kv; have q3 := World.new_ne w3 ⟨T, 0, none⟩ s0; have q4 := World.new_ne w3 ⟨T, 2, none⟩ s1; have q5 := World.new_ne w3 ⟨vb, vo + p, none⟩ s2)
          | (go_at_call 47; refine (implFracOf_as z d x y true _ HPF.out HOK.out).mono ?_; rintro e w4 ⟨rfl, hb0⟩; (first | have hb9 := below_drew hb0 | have hb9 := hb0); (first | (have N4 := Lib.hid ((Two.new w3 0 0 56).below hb9); have C4 := Lib.hid (below_on C3.out (below_on (below_more (Below.refl _ w3) (.cells #[.int .i64 0, .int .i64 0] 56)) hb9)); obtain ⟨ln4, n4, m4, g4, h4⟩ := N4.out; clear hb9 hb0) | (have N4 := Lib.hid (N3.out.below hb9); have C4 := Lib.hid (below_on C3.out hb9); obtain ⟨ln4, n4, m4, g4, h4⟩ := N4.out; clear hb9 hb0) | (have C4 := Lib.hid (below_on C3.out hb9); clear hb9 hb0)); have s3 := (C4.out.cell (p := ⟨T, 0, none⟩) htl1).trans k0; have s4 := (C4.out.cell (p := ⟨T, 2, none⟩) htl1).trans k2; have s5 := (C4.out.cell (p := ⟨vb, vo + p, none⟩) hvb1).trans kv; have q6 := World.new_ne w4 ⟨T, 0, none⟩ s3; have q7 := World.new_ne w4 ⟨T, 2, none⟩ s4; have q8 := World.new_ne w4 ⟨vb, vo + p, none⟩ s5))
      all_goals
        have hs3 := C3.out.size
        have hs4 := C4.out.size
        go_wp2_with fail
        go_meet
        first
          | exact made_new C4.out
          | exact made_old N4.out C4.out (by omega)
    case rest =>
      obtain ⟨pp, rfl, rfl, hP, hBx⟩ := hcut
      have B1 := Lib.hid (below_on B0.out hBx)
      have T1 := Lib.hid (T0.out.below hBx)
      obtain ⟨lp, p0, p9, -, -⟩ := hP
      obtain ⟨lr, r0, r9, g0, g9⟩ := T1.out
      have k0' := Two.set0 T1.out (.int .i64 x)
      have k9' := Two.set1 T1.out (.int .i64 x) (.int .i64 y)
      clear k0 k2 kv hBx HW0
      go_wp2
      refine bodyPost_ret (v := .agg #[.int .i64 x, .int .i64 y]) (by simp [results, Try.results36, go_sem, k0', k9']) rfl ?_
      exact ⟨rfl, below_set2 B1.out (Nat.le_refl _) _ _⟩
  · have HD := Lib.hid hd
    have c2 : w.cell? ⟨T, 2, none⟩ = some (.iface 73 (.agg #[])) := c2
    have k0 := (B0.out.cell (p := ⟨T, 0, none⟩) htl).trans c0
    have k2 := (B0.out.cell (p := ⟨T, 2, none⟩) htl).trans c2
    have kv := (B0.out.cell (p := ⟨vb, vo + p, none⟩) hvb).trans cv
    have htl1 : T < (w.alloc (.cells #[.int .i64 0, .int .i64 0] 56)).heap.size := Nat.lt_of_lt_of_le htl B0.out.size
    have hvb1 : vb < (w.alloc (.cells #[.int .i64 0, .int .i64 0] 56)).heap.size := Nat.lt_of_lt_of_le hvb B0.out.size
    have T0 := Lib.hid (Two.new w 0 0 56)
    clear hd hm c0 c2 cv
    go_enter Try.func36, Try.ntmps36
    go_upto_region 1 with fail
    generalize hW0 : w.alloc (.cells #[.int .i64 0, .int .i64 0] 56) = W0 at *
    have HW0 := Lib.hid hW0
    clear hW0
    go_cut [7, 8] from 9 to 26 (fun s6 s7 wx => MadeB W0 x y true s6 s7 wx)
    case first =>
      have q0 := World.new_ne W0 ⟨T, 0, none⟩ k0
      have q1 := World.new_ne W0 ⟨T, 2, none⟩ k2
      have q2 := World.new_ne W0 ⟨vb, vo + p, none⟩ kv
      go_region_held3 (fun w' => w'.cell? ⟨T, 0, none⟩ = some (.slice (some ⟨vb, vo, none⟩) n cap) ∧ w'.cell? ⟨T, 2, none⟩ = some (.iface 73 (.agg #[])) ∧ w'.cell? ⟨vb, vo + p, none⟩ = some (.int .i64 z)) (go_keep)
        (first
          | (go_at_call 77; refine (divTwo_as g d _ hg HD.out).mono ?_; rintro e w3 ⟨rfl, hb0⟩; have hb9 := below_drew hb0; (first | (have N3 := Lib.hid ((Two.new W0 0 0 56).below hb9); have C3 := Lib.hid (below_on (below_more (Below.refl _ W0) (.cells #[.int .i64 0, .int .i64 0] 56)) hb9); clear hb9 hb0) | (have C3 := Lib.hid (below_on (Below.refl _ W0) hb9); clear hb9 hb0)); have s0 := (C3.out.cell (p := ⟨T, 0, none⟩) htl1).trans k0; have s1 := (C3.out.cell (p := ⟨T, 2, none⟩) htl1).trans k2; have s2 := (C3.out.cell (p := ⟨vb, vo + p, none⟩) hvb1).trans kv; have q3 := World.new_ne w3 ⟨T, 0, none⟩ s0; have q4 := World.new_ne w3 ⟨T, 2, none⟩ s1; have q5 := World.new_ne w3 ⟨vb, vo + p, none⟩ s2)
          | (go_at_call 47; refine (implFracOf_as z d x y true _ HPF.out HOK.out).mono ?_; rintro e w4 ⟨rfl, hb0⟩; (first | have hb9 := below_drew hb0 | have hb9 := hb0); (first | (have N4 := Lib.hid ((Two.new w3 0 0 56).below hb9); have C4 := Lib.hid (below_on C3.out (below_on (below_more (Below.refl _ w3) (.cells #[.int .i64 0, .int .i64 0] 56)) hb9)); obtain ⟨ln4, n4, m4, g4, h4⟩ := N4.out; clear hb9 hb0) | (have N4 := Lib.hid (N3.out.below hb9); have C4 := Lib.hid (below_on C3.out hb9); obtain ⟨ln4, n4, m4, g4, h4⟩ := N4.out; clear hb9 hb0) | (have C4 := Lib.hid (below_on C3.out hb9); clear hb9 hb0)); have s3 := (C4.out.cell (p := ⟨T, 0, none⟩) htl1).trans k0; have s4 := (C4.out.cell (p := ⟨T, 2, none⟩) htl1).trans k2; have s5 := (C4.out.cell (p := ⟨vb, vo + p, none⟩) hvb1).trans kv; have q6 := World.new_ne w4 ⟨T, 0, none⟩ s3; have q7 := World.new_ne w4 ⟨T, 2, none⟩ s4; have q8 := World.new_ne w4 ⟨vb, vo + p, none⟩ s5))
      all_goals
        have hs3 := C3.out.size
        have hs4 := C4.out.size
        go_wp2_with fail
        go_meet
        first
          | exact made_new C4.out
          | exact made_old N4.out C4.out (by omega)
    case rest =>
      obtain ⟨pp, rfl, rfl, hP, hBx⟩ := hcut
      have B1 := Lib.hid (below_on B0.out hBx)
      have T1 := Lib.hid (T0.out.below hBx)
      obtain ⟨lp, p0, p9, -, -⟩ := hP
      obtain ⟨lr, r0, r9, g0, g9⟩ := T1.out
      have k0' := Two.set0 T1.out (.int .i64 x)
      have k9' := Two.set1 T1.out (.int .i64 x) (.int .i64 y)
      clear k0 k2 kv hBx HW0
      go_wp2
      refine bodyPost_ret (v := .agg #[.int .i64 x, .int .i64 y]) (by simp [results, Try.results36, go_sem, k0', k9']) rfl ?_
      exact ⟨rfl, below_set2 B1.out (Nat.le_refl _) _ _⟩

end Go.Proofs.Ytgcocdacofpglaa
