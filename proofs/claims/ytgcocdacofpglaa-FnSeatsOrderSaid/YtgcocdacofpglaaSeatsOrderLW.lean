/-
  laws.FnSeatsOrder returns true for every code. No condition.
-/
import Derived.Test.YtgcocdacofpglaaGrp1
import Derived.Test.YtgcocdacofpglaaSeatY
import Derived.Test.YtgcocdacofpglaaDrawSd
import Derived.Test.YtgcocdacofpglaaGrp8
namespace Go.Proofs.Ytgcocdacofpglaa.fnSeatsOrder
open Go.RowKit
set_option linter.unusedVariables false


set_option maxRecDepth 100000 in
set_option maxHeartbeats 8000000 in
/-- The law's walk: it returns true, and writes nothing that was there. -/
theorem walk (a0 : Option Addr) (len0 cap0 : Nat) (z0 : List Int) (w : World) (w0 : IsRow .u8 w a0 len0 cap0 z0) :
    Calls Try.prog 5 #[.slice a0 len0 cap0] w fun e w' => e = .returned (.bool true) ∧ Below w.heap.size w w' := by
  by_cases hl : len0 ≤ 1048576
  · skip
    have hcap := w0.cap
    have HB := Lib.hid w0.bytes; clear w0
    go_enter Try.func5, Try.ntmps5
    go_wp2_with fail
    refine (drawSeats_any a0 len0 cap0 _ _ HB.out hcap (by omega)).mono ?_
    rintro e w1 ⟨zs, av, cv, s, m, lots, al, cl, rfl, ho, hz5, hol, hl5, hs, hm, hb⟩
    have B := Lib.hid hb
    obtain ⟨n, hn⟩ : ∃ n, zs.length = n := ⟨_, rfl⟩
    rw [hn] at ho hz5 ⊢
    have I := Lib.hid (IsInts.of_owned ho (by omega))
    have Hn := Lib.hid hn
    obtain ⟨nl, hnl⟩ : ∃ nl, lots.length = nl := ⟨_, rfl⟩
    rw [hnl] at hol hl5 ⊢
    have J := Lib.hid (IsInts.of_owned hol (by omega))
    have Hnl := Lib.hid hnl
    clear hb HB ho hol hn hnl
    obtain ⟨v, hv⟩ : ∃ v, okD zs s m lots = v := ⟨_, rfl⟩
    obtain ⟨l, hL⟩ : ∃ l, divL zs s m lots = l := ⟨_, rfl⟩
    have hx5 : l.length ≤ 5 := by rw [← hL]; exact div_short5 (by rw [Hn.out]; exact hz5) _ _ _
    have HV := Lib.hid hv
    have HL := Lib.hid hL
    clear hv hL
    have hne : (v != v) = false := by cases v <;> rfl
    have heq : (v == v) = true := by cases v <;> rfl
    go_wp2_with fail
    refine (implSeats_as _ n cv zs s m _ nl cl lots l v _ I.out J.out HV.out HL.out).mono ?_
    rintro e w2 ⟨a1, c1, rfl, ho, hb⟩
    have I := Lib.hid (I.out.below hb)
    have J := Lib.hid (J.out.below hb)
    have I1 := Lib.hid (IsInts.of_owned ho (by omega))
    have B := Lib.hid (B.out.trans (hb.mono B.out.size))
    clear hb ho
    go_wp2_with fail
    refine (specSeats_as _ n cv zs s m _ nl cl lots l v _ I.out J.out HV.out HL.out).mono ?_
    rintro e w3 ⟨a2, c2, rfl, ho, hb⟩
    have I := Lib.hid (I.out.below hb)
    have J := Lib.hid (J.out.below hb)
    have I1 := Lib.hid (I1.out.below hb)
    have I2 := Lib.hid (IsInts.of_owned ho (by omega))
    have B := Lib.hid (B.out.trans (hb.mono B.out.size))
    clear hb ho
    go_wp2_with fail
    refine (sameInts_it _ _ _ l _ _ _ I1.out I2.out).mono ?_
    rintro e w4 ⟨rfl, hd⟩
    have hb := hd.below w3.heap.size
    have I := Lib.hid (I.out.below hb)
    have J := Lib.hid (J.out.below hb)
    have I1 := Lib.hid (I1.out.below hb)
    have I2 := Lib.hid (I2.out.below hb)
    have B := Lib.hid (B.out.trans (hb.mono B.out.size))
    clear hb hd
    cases v
    · skip
      go_wp2_with fail
      refine (sameInts_it _ _ _ l _ _ _ I1.out I2.out).mono ?_
      rintro e w5 ⟨rfl, hd⟩
      have hb := hd.below w4.heap.size
      have I := Lib.hid (I.out.below hb)
      have J := Lib.hid (J.out.below hb)
      have I1 := Lib.hid (I1.out.below hb)
      have I2 := Lib.hid (I2.out.below hb)
      have B := Lib.hid (B.out.trans (hb.mono B.out.size))
      clear hb hd
      go_wp2
      go_ret
      exact ⟨rfl, B.out⟩
    obtain ⟨hvo, hs20, hme, hlo, hln⟩ := (okD_iff _ _ _ _).1 HV.out
    obtain ⟨S, rfl⟩ := Int.eq_ofNat_of_zero_le hs20.1
    have hS : S ≤ 20 := by omega
    have HR : Hid (l = seatsL zs m lots S) := by rw [Hid, ← HL.out, divL, if_pos HV.out, Int.toNat_natCast]
    have hll : l.length = n := by rw [HR.out, seatsL_length]; exact Hn.out
    obtain rfl : nl = n := by rw [← Hnl.out, hln]; exact Hn.out
    have VO := Lib.hid hvo
    have ME := Lib.hid hme
    have LO := Lib.hid hlo
    have LN := Lib.hid hln
    have HLL := Lib.hid hll
    have hn1 : 1 ≤ nl ∧ nl ≤ 5 := by have := (voteB_iff zs).1 VO.out; rw [Hn.out] at this; exact this.1.2
    have XV : Hid (toB zs 99 nl = true) := by have := ((voteB_iff zs).1 VO.out).1.1; rw [Hn.out] at this; exact this
    rw [hll] at I1 I2 ⊢
    clear hvo hme hlo hln hll
    have HE : Hid (∀ i, i < nl → 0 ≤ l[i]?.getD 0 ∧ l[i]?.getD 0 ≤ 20 ∧ (zs[i]?.getD 0 = 0 → l[i]?.getD 0 = 0)) := fun i hi => by rw [HR.out]; exact p82_each VO.out ME.out LO.out LN.out hS (by rw [Hn.out]; exact hi)
    have HA : Hid (∀ i k, i < nl → k < nl → zs[k]?.getD 0 < zs[i]?.getD 0 → l[k]?.getD 0 ≤ l[i]?.getD 0) := fun i k hi hk h => by rw [HR.out]; exact p84_more VO.out ME.out LO.out LN.out hS (by rw [Hn.out]; exact hi) (by rw [Hn.out]; exact hk) h
    have HQ : Hid (∀ i k : Nat, i < nl → k < nl → zs[i]?.getD 0 = zs[k]?.getD 0 → befL lots (i : Int) (k : Int) = true → l[k]?.getD 0 ≤ l[i]?.getD 0 ∧ l[i]?.getD 0 ≤ l[k]?.getD 0 + 1) := fun i k hi hk h hb => by rw [HR.out]; exact p84_equal VO.out ME.out LO.out LN.out hS (by rw [Hn.out]; exact hi) (by rw [Hn.out]; exact hk) h hb
    obtain ⟨vb, vo, rfl, hvb, hvc⟩ := I.out.2.2.2 (by omega)
    obtain ⟨ob, oo, rfl, hob, hoc⟩ := I1.out.2.2.2 (by omega)
    have HVC := Lib.hid hvc
    have HOC := Lib.hid hoc
    clear hvc hoc
    go_wp2
    go_loopw [11, 12] (fun iv _ wr => ∃ i : Nat, i ≤ nl ∧ iv = .int .i64 (i : Int) ∧ Below w4.heap.size w4 wr) (fun iv _ _ => nl - (intOf iv).toNat)
    case atStart => exact ⟨0, Nat.zero_le _, rfl, Below.refl _ _⟩
    case round =>
      rename World => wx
      obtain ⟨i, hi, rfl, hd⟩ := hrel
      by_cases hlt : i < nl
      · have hii : (i : Int) < (nl : Int) := by omega
        go_wp2
        go_loopw [12] (fun kv wr => ∃ k : Nat, k ≤ nl ∧ kv = .int .i64 (k : Int) ∧ Below w4.heap.size w4 wr) (fun kv _ => nl - (intOf kv).toNat)
        case atStart => exact ⟨0, Nat.zero_le _, rfl, hd⟩
        case round =>
          clear hd
          obtain ⟨k, hk, rfl, hd⟩ := hrel
          by_cases hkt : k < nl
          · have hki : (k : Int) < (nl : Int) := by omega
            have cvi := (hd.cell (p := ⟨vb, vo + i, none⟩) hvb).trans (HVC.out i hlt)
            have coi := (hd.cell (p := ⟨ob, oo + i, none⟩) hob).trans (HOC.out i hlt)
            have cvk := (hd.cell (p := ⟨vb, vo + k, none⟩) hvb).trans (HVC.out k hkt)
            have cok := (hd.cell (p := ⟨ob, oo + k, none⟩) hob).trans (HOC.out k hkt)
            have JW := Lib.hid (J.out.below hd)
            have hbk := (HE.out k hkt)
            have ha := HA.out i k hlt hkt
            have hq := HQ.out i k hlt hkt
            obtain ⟨vi, evi⟩ : ∃ t, zs[i]?.getD 0 = t := ⟨_, rfl⟩
            obtain ⟨vk, evk⟩ : ∃ t, zs[k]?.getD 0 = t := ⟨_, rfl⟩
            obtain ⟨oi, eoi⟩ : ∃ t, l[i]?.getD 0 = t := ⟨_, rfl⟩
            obtain ⟨ok, eok⟩ : ∃ t, l[k]?.getD 0 = t := ⟨_, rfl⟩
            rw [evi, evk, eoi, eok] at ha hq
            rw [evi] at cvi
            rw [evk] at cvk
            rw [eoi] at coi
            rw [eok] at cok hbk
            obtain ⟨hk0, hk20, -⟩ := hbk
            obtain ⟨b, hb⟩ : ∃ b, befL lots (i : Int) (k : Int) = b := ⟨_, rfl⟩
            rw [hb] at hq
            have HB := Lib.hid hb
            have hw1 : IntKind.i64.wrap (ok + 1) = ok + 1 := IntWalk.i64_in _ (by omega)
            have u0 : ∀ u : Beh wr, u.w.cell? ⟨vb, vo + i, none⟩ = _ := Beh.cell cvi (Nat.lt_of_lt_of_le hvb hd.size)
            have u1 : ∀ u : Beh wr, u.w.cell? ⟨ob, oo + i, none⟩ = _ := Beh.cell coi (Nat.lt_of_lt_of_le hob hd.size)
            have u2 : ∀ u : Beh wr, u.w.cell? ⟨vb, vo + k, none⟩ = _ := Beh.cell cvk (Nat.lt_of_lt_of_le hvb hd.size)
            have u3 : ∀ u : Beh wr, u.w.cell? ⟨ob, oo + k, none⟩ = _ := Beh.cell cok (Nat.lt_of_lt_of_le hob hd.size)
            clear evi evk eoi eok hb cvi coi cvk cok
            rcases Int.lt_trichotomy vk vi with h1 | h1 | h1
            · have d1 : decide (vk < vi) = true := decide_eq_true h1
              have d2 : decide (oi < ok) = false := decide_eq_false (by have := ha h1; omega)
              have d3 : (vi == vk) = false := by simp; omega
              clear ha hq h1
              go_wp2_with fail
              refine wp_region_below (by kernel_rfl) (by kernel_rfl) ?_
              repeat (go_big_quiet_step (first | (go_at_call 16; exact Calls.behSame (before_as _ _ _ lots (i : Int) (k : Int) _ _ (JW.out.below (Beh.below _)) HB.out))))
              refine wpQuiet_nil ?_
              rintro w8 ⟨⟨_, hb8'⟩, he⟩
              have hb8 : Below wr.heap.size wr w8 := by rw [he]; exact hb8'
              have hB8 := hd.trans (hb8.mono hd.size)
              clear hb8 hb8' he u0 u1 u2 u3
              go_wp2
              go_roundw
              case rel => exact ⟨k + 1, by omega, by go_num, hB8⟩
              case measure => simp [intOf]; omega
            · subst h1
              have d1 : decide (vk < vk) = false := decide_eq_false (by omega)
              have d3 : (vk == vk) = true := by simp
              cases b
              · clear ha hq
                go_wp2_with fail
                refine wp_region_below (by kernel_rfl) (by kernel_rfl) ?_
                repeat (go_big_quiet_step (first | (go_at_call 16; exact Calls.behSame (before_as _ _ _ lots (i : Int) (k : Int) _ _ (JW.out.below (Beh.below _)) HB.out))))
                refine wpQuiet_nil ?_
                rintro w8 ⟨⟨_, hb8'⟩, he⟩
                have hb8 : Below wr.heap.size wr w8 := by rw [he]; exact hb8'
                have hB8 := hd.trans (hb8.mono hd.size)
                clear hb8 hb8' he u0 u1 u2 u3
                go_wp2
                go_roundw
                case rel => exact ⟨k + 1, by omega, by go_num, hB8⟩
                case measure => simp [intOf]; omega
              · obtain ⟨q1, q2⟩ := hq rfl rfl
                have d2 : decide (oi < ok) = false := decide_eq_false (by omega)
                have d4 : decide (ok + 1 < oi) = false := decide_eq_false (by omega)
                clear ha hq q1 q2
                go_wp2_with fail
                refine wp_region_below (by kernel_rfl) (by kernel_rfl) ?_
                repeat (go_big_quiet_step (first | (go_at_call 16; exact Calls.behSame (before_as _ _ _ lots (i : Int) (k : Int) _ _ (JW.out.below (Beh.below _)) HB.out))))
                refine wpQuiet_nil ?_
                rintro w8 ⟨⟨_, hb8'⟩, he⟩
                have hb8 : Below wr.heap.size wr w8 := by rw [he]; exact hb8'
                have hB8 := hd.trans (hb8.mono hd.size)
                clear hb8 hb8' he u0 u1 u2 u3
                go_wp2
                go_roundw
                case rel => exact ⟨k + 1, by omega, by go_num, hB8⟩
                case measure => simp [intOf]; omega
            · have d1 : decide (vk < vi) = false := decide_eq_false (by omega)
              have d3 : (vi == vk) = false := by simp; omega
              clear ha hq h1
              go_wp2_with fail
              refine wp_region_below (by kernel_rfl) (by kernel_rfl) ?_
              repeat (go_big_quiet_step (first | (go_at_call 16; exact Calls.behSame (before_as _ _ _ lots (i : Int) (k : Int) _ _ (JW.out.below (Beh.below _)) HB.out))))
              refine wpQuiet_nil ?_
              rintro w8 ⟨⟨_, hb8'⟩, he⟩
              have hb8 : Below wr.heap.size wr w8 := by rw [he]; exact hb8'
              have hB8 := hd.trans (hb8.mono hd.size)
              clear hb8 hb8' he u0 u1 u2 u3
              go_wp2
              go_roundw
              case rel => exact ⟨k + 1, by omega, by go_num, hB8⟩
              case measure => simp [intOf]; omega
          · obtain rfl : k = nl := by omega
            go_wp2
            go_roundw
            case rel => exact ⟨i + 1, by omega, by go_num, hd⟩
            case measure => simp [intOf]; omega
      · obtain rfl : i = nl := by omega
        go_wp2
        go_ret
        exact ⟨rfl, B.out.trans (hd.mono B.out.size)⟩
  · clear w0
    go_enter Try.func5, Try.ntmps5
    go_wp2
    go_ret
    exact ⟨rfl, Below.refl _ _⟩

end Go.Proofs.Ytgcocdacofpglaa.fnSeatsOrder
