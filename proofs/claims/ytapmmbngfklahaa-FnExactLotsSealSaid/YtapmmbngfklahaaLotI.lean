/-
  impl.LotsValid, impl.LotsFirst, impl.seedValid and impl.LotsSeal: what they answer at every list of at most 1048600 ints, every list of bools and every number; they write into no memory that was there.
-/
import Derived.Test.YtapmmbngfklahaaLotQ
import Derived.Test.YtapmmbngfklahaaOpen
import Derived.Test.YtapmmbngfklahaaValid
namespace Go.Proofs.Ytapmmbngfklahaa
open Go.RowKit

/-- **impl.LotsValid**. -/
theorem implLots_any (a : Option Addr) (len cap : Nat) (zs : List Int) (w : World) (h : IsInts w a len cap zs) :
    Calls Try.prog 17 #[.slice a len cap] w fun e w' => e = .returned (.bool (lotsB zs)) ∧ Below w.heap.size w w' := by
  have HV : Hid (validB zs (len : Int) = lotsB zs) := by unfold Hid lotsB; rw [h.1]
  have H := Lib.hid h; clear h
  go_enter Try.func17, Try.ntmps17
  go_wp2_with fail
  refine (implValid_any _ _ _ zs _ _ H.out).mono ?_
  rintro e w1 ⟨rfl, hb⟩
  go_wp2
  go_ret
  exact ⟨ret_bool HV.out, hb⟩

set_option maxHeartbeats 1000000 in
/-- **impl.LotsFirst**. -/
theorem implPick_any (a : Option Addr) (len cap : Nat) (zs : List Int) (a' : Option Addr) (len' cap' : Nat) (L : List Bool) (w : World) (h : IsInts w a len cap zs) (h' : IsBools w a' len' cap' L) :
    Calls Try.prog 19 #[.slice a len cap, .slice a' len' cap'] w fun e w' => e = .returned (.int .i64 (pickB zs L)) ∧ Below w.heap.size w w' := by
  have hE : Hid (pickB zs L = if lotsB zs = true ∧ len' = len then pickL zs L else -1) := by unfold Hid pickB; rw [h.1, h'.1]
  have hm := h'.2.2.1
  have hm' := h.2.2.1
  have HL := Lib.hid h.1
  have H := Lib.hid h; clear h
  have H' := Lib.hid h'; clear h'
  cases hv : lotsB zs
  · have HV := Lib.hid hv
    go_enter Try.func19, Try.ntmps19
    go_wp2_with fail
    refine (implLots_any _ _ _ zs _ H.out).mono ?_
    rintro e w1 ⟨he, hb⟩
    rw [HV.out] at he
    subst he
    go_wp2
    go_ret
    refine ⟨ret_int ?_, hb⟩
    rw [hE.out, HV.out]; rfl
  · have HV := Lib.hid hv
    by_cases hll : len' = len
    · have HR : Hid (∀ z ∈ zs, 0 ≤ z ∧ z < (len' : Int)) := by intro z hz; have := lotsB_mem HV.out z hz; rw [HL.out] at this; omega
      subst hll
      have hne : ((len' : Int) != (len' : Int)) = false := by simp
      go_enter Try.func19, Try.ntmps19
      go_wp2_with fail
      refine (implLots_any _ _ _ zs _ H.out).mono ?_
      rintro e w1 ⟨he, hb⟩
      rw [HV.out] at he
      subst he
      have HB := Lib.hid hb
      obtain ⟨-, -, -, h4⟩ := H.out.below hb
      obtain ⟨-, -, -, g4⟩ := H'.out.below hb
      have H4 := Lib.hid h4; clear h4
      have G4 := Lib.hid g4; clear g4 hb
      go_wp2
      go_loop [19] (fun i => ∃ k : Nat, k ≤ len' ∧ i = .int .i64 k ∧ Hid (pickL zs L = pickL (zs.drop k) L)) (fun i => len' - (intOf i).toNat)
      case atStart => exact ⟨0, Nat.zero_le _, rfl, by simp [Hid]⟩
      case round =>
        obtain ⟨k, hk, rfl, hp⟩ := hrel
        by_cases hlt : k < len'
        · obtain ⟨b, o, rfl, hb, hc⟩ := H4.out (by omega)
          have hz := hc k hlt
          have hkz : k < zs.length := by rw [HL.out]; exact hlt
          have hr := HR.out (zs[k]?.getD 0) (by simp [hkz])
          obtain ⟨c, hcz⟩ := Int.eq_ofNat_of_zero_le hr.1
          obtain ⟨lb, lo, rfl, hlb, hlc⟩ := G4.out (by omega)
          have hcl : c < len' := by omega
          have hcell := hlc c hcl
          rw [hcz] at hz
          have HD := drop_cons zs k hkz
          rw [hcz] at HD
          have HD := Lib.hid HD
          clear hc hlc hr hcz hkz
          cases hLc : L[c]?.getD false
          · have HLc := Lib.hid hLc
            rw [hLc] at hcell
            clear hLc
            go_wp2
            go_round
            case rel =>
              refine ⟨k + 1, by omega, by go_num, ?_⟩
              unfold Hid
              rw [hp.out, HD.out, pickL, if_neg (by rw [Int.toNat_natCast, HLc.out]; simp)]
            case measure => simp [intOf]; omega
          · have HLc := Lib.hid hLc
            rw [hLc] at hcell
            clear hLc
            go_wp2
            go_ret
            refine ⟨ret_int ?_, HB.out⟩
            rw [hE.out, if_pos (by simp [HV.out]), hp.out, HD.out, pickL, if_pos (by rw [Int.toNat_natCast]; exact HLc.out)]
        · obtain rfl : k = len' := by omega
          go_wp2
          go_ret
          refine ⟨ret_int ?_, HB.out⟩
          rw [hE.out, if_pos (by simp [HV.out]), hp.out, List.drop_of_length_le (by rw [HL.out]; omega)]; rfl
    · have hll2 : ¬ (len' : Int) = (len : Int) := by omega
      have hll3 : ((len' : Int) != (len : Int)) = true := by simpa using hll2
      go_enter Try.func19, Try.ntmps19
      go_wp2_with fail
      refine (implLots_any _ _ _ zs _ H.out).mono ?_
      rintro e w1 ⟨he, hb⟩
      rw [HV.out] at he
      subst he
      go_wp2
      go_ret
      refine ⟨ret_int ?_, hb⟩
      rw [hE.out, if_neg (fun e => hll e.2)]

/-- **seedValid**. -/
theorem seed_any (x : Int) (w : World) :
    Calls Try.prog 34 #[.int .i64 x] w fun e w' => e = .returned (.bool (inB x 0 999)) ∧ w = w' := by
  by_cases h1 : 0 ≤ x
  · by_cases h2 : x ≤ 999
    · rw [inB_yes h1 h2]
      go_enter Try.func34, Try.ntmps34
      go_wp2
      go_ret
      exact ⟨rfl, rfl⟩
    · rw [inB_no (.inr (by omega))]
      go_enter Try.func34, Try.ntmps34
      go_wp2
      go_ret
      exact ⟨rfl, rfl⟩
  · rw [inB_no (.inl (by omega))]
    go_enter Try.func34, Try.ntmps34
    go_wp2
    go_ret
    exact ⟨rfl, rfl⟩

set_option maxHeartbeats 1000000 in
/-- **impl.LotsSeal**. -/
theorem implSeal_any (x y : Int) (w : World) :
    Calls Try.prog 24 #[.int .i64 x, .int .i64 y] w fun e w' => e = .returned (.int .i64 (sealB x y)) ∧ w = w' := by
  cases hx : inB x 0 999
  · have HX := Lib.hid hx
    go_enter Try.func24, Try.ntmps24
    go_wp2_with (go_at_call 34; refine (seed_any _ _).mono ?_; rintro e w' ⟨rfl, rfl⟩)
    go_ret
    exact ⟨ret_int (by rw [sealB, if_neg (by rw [HX.out]; simp)]), rfl⟩
  · cases hy : inB y 0 999
    · have HY := Lib.hid hy
      go_enter Try.func24, Try.ntmps24
      go_wp2_with (go_at_call 34; refine (seed_any _ _).mono ?_; rintro e w' ⟨rfl, rfl⟩)
      go_ret
      exact ⟨ret_int (by rw [sealB, if_neg (by rw [HY.out]; simp)]), rfl⟩
    · have HX := Lib.hid hx
      have HY := Lib.hid hy
      obtain ⟨hx0, hx1⟩ := inB_of hx
      obtain ⟨hy0, hy1⟩ := inB_of hy
      have hS : Hid (sealB x y = (x * 7919 + y * 104729 + 12345) % 1000003) := by unfold Hid; rw [sealB, if_pos ⟨HX.out, HY.out⟩, sealV]
      go_enter Try.func24, Try.ntmps24
      go_wp2_with (go_at_call 34; refine (seed_any _ _).mono ?_; rintro e w' ⟨rfl, rfl⟩)
      go_ret
      exact ⟨ret_int (by rw [hS.out]), rfl⟩

end Go.Proofs.Ytapmmbngfklahaa
