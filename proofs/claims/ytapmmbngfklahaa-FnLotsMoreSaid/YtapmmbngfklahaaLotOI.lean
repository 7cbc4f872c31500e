/-
  impl.LotsOf: what it returns for every number of candidates and every seed, in memory of its own; it writes into no memory that was there.
-/
import Derived.Test.YtapmmbngfklahaaTake
import Derived.Test.YtapmmbngfklahaaLotI
import Derived.Test.YtapmmbngfklahaaTold
namespace Go.Proofs.Ytapmmbngfklahaa
open Go.RowKit

theorem ownsRow_low {w : World} {base base' n size : Nat} {e : TypeId} {v : Value} {xs : List Value} (h : w.ownsRow base e size v n xs) (hb : base' ≤ base) : w.ownsRow base' e size v n xs := by
  refine ⟨h.1, ?_⟩
  rcases h.2 with hn | ⟨g, cap, cur, h1, h2, h3⟩
  · exact .inl hn
  · exact .inr ⟨g, cap, cur, h1, Nat.le_trans hb h2, h3⟩

/-- **take**, its place named. -/
theorem take_as (B C h k : Nat) (q : Int) (bs : List Nat) (ns : List Int) (w : World) (hc : Chain w B C bs ns) (h0 : bs[0]?.getD 0 = h) (hk : k + 1 < bs.length) (hl : bs.length ≤ 1000000) (hq : (k : Int) = q) :
    Calls Try.prog 36 #[.pointer (some ⟨h, 0, none⟩), .int .i64 q] w fun e w' => e = .returned (.int .i64 (ns[k + 1]?.getD 0)) ∧ Chain w' B C (bs.eraseIdx (k + 1)) (ns.eraseIdx (k + 1)) ∧ Below B w w' ∧ ∃ r, r < C ∧ w.grownBy w' (some r) ∧ w'.heap.size = w.heap.size := by
  subst hq; exact take_any B C h k bs ns w hc h0 hk hl
theorem cons_at (z : Int) (l : List Int) (k : Nat) : (z :: l)[k + 1]?.getD 0 = l[k]?.getD 0 := by simp

set_option maxHeartbeats 2000000 in
/-- **impl.LotsOf**, at a number of candidates and a seed in range. -/
theorem implLotsOf_yes (n s : Nat) (w : World) (hn1 : 1 ≤ n) (hn5 : n ≤ 5) (hs : s ≤ 999) :
    Calls Try.prog 14 #[.int .i64 (n : Int), .int .i64 (s : Int)] w fun e w' => ∃ a cap, e = .returned (.tuple #[.slice a n cap, .bool true]) ∧ w'.ownsRow w.heap.size 3 1 (.slice a n cap) n ((lotsOf n s).map (Value.int .i64)) ∧ Below w.heap.size w w' := by
  obtain ⟨i0, hi, hz0, hz1, hz2⟩ := info_parts int_info
  have hd1 : decide ((n : Int) < 1) = false := by simp; omega
  have hd5 : decide (5 < (n : Int)) = false := by simp; omega
  have hsv := inB_yes (x := (s : Int)) (lo := 0) (hi := 999) (by omega) (by omega)
  have HSV := Lib.hid hsv; clear hsv
  go_enter Try.func14, Try.ntmps14
  go_wp2_with fail
  refine (seed_any _ _).mono ?_
  rintro e w' ⟨he, rfl⟩
  rw [HSV.out] at he
  subst he
  go_wp2_with fail
  refine (left_any n _ hn5).mono ?_
  rintro e w1 ⟨bs, rfl, h0, hc, hb⟩
  have HC1 := Lib.hid hc
  have H01 := Lib.hid h0
  have hs1 := hb.size
  have hB1 := hb
  clear hc h0 hb
  go_wp2_with (at_make; refine wpList_make_own _ rfl _ _ 25 rfl w1.heap.size 3 i0 (.int .i64 0) 1 Try.underlying25 hi hz0 hz1 .i64 .i64 _ n rfl rfl rfl (by rw [hz2]; omega) (by unfold maxLen; omega) (Nat.le_refl _) ?_; intro w2 hown hgrow)
  obtain ⟨g, hg⟩ : ∃ g, w1.heap.size = g := ⟨_, rfl⟩
  have HC2 : Hid (Chain w2 w.heap.size g bs (0 :: fromZero n)) := by
    have := HC1.out; rw [hg] at this
    exact this.kept hgrow.size (fun k hk hk2 => hgrow.block k hk2 (by simp))
  rw [hg] at hown hs1 ⊢
  have hB2 : Below w.heap.size w w2 := hB1.grown hgrow (by omega) (fun k e => by cases e)
  have hgs : g ≤ w2.heap.size := by have := hgrow.size; omega
  have HO2 : Hid (w2.ownsRow g 3 1 (.slice (some ⟨g, 0, none⟩) 0 n) 0 (([] : List Int).map (Value.int .i64))) := hown
  have hbl : bs.length = n + 1 := by have := HC1.out.len; simpa [fromZero_length] using this
  have HBL := Lib.hid hbl
  have hwg : w.heap.size ≤ g := hs1
  clear hown hgrow HC1 hB1 hg hbl hs1 hd1 hd5
  go_wp2
  go_loopw [1, 7, 8] (fun sv lv mv wr => ∃ (k sd m : Nat) (bs : List Nat) (rest out : List Int) (a : Option Addr) (cap : Nat), m + k = n ∧ sd ≤ 999 ∧ mv = .int .i64 (k : Int) ∧ sv = .int .i64 (sd : Int) ∧ lv = .slice a m cap ∧
    Hid (bs[0]?.getD 0 = w.heap.size) ∧ Hid (Chain wr w.heap.size g bs (0 :: rest)) ∧ Hid (rest.length = k) ∧ Hid (bs.length = k + 1) ∧ Hid (out ++ lotR rest sd = lotsOf n s) ∧ Hid (wr.ownsRow g 3 1 (.slice a m cap) m (out.map (Value.int .i64))) ∧ Below w.heap.size w wr ∧ g ≤ wr.heap.size) (fun _ _ mv _ => (intOf mv).toNat)
  case atStart => exact ⟨n, s, 0, bs, fromZero n, [], _, n, by omega, hs, rfl, rfl, rfl, H01.out, HC2.out, fromZero_length n, HBL.out, by unfold Hid; rw [lotR_all]; rfl, HO2.out, hB2, hgs⟩
  case round =>
    obtain ⟨k, sd, m, bs, rest, out, a, cap, hmk, hsd, rfl, rfl, rfl, h0, hc, hrl, hbl, hall, ho, hB, hg⟩ := hrel
    by_cases hlt : 0 < k
    · have hgt : decide (0 < (k : Int)) = true := decide_eq_true (by omega)
      have hkz : ((k : Int) == 0) = false := by simp; omega
      have hq : ((sd % k : Nat) : Int) = (sd : Int) % (k : Int) := Int.natCast_emod sd k
      have HQ := Lib.hid hq; clear hq
      have hqk := Nat.mod_lt sd hlt
      obtain ⟨q, hqe⟩ : ∃ q, sd % k = q := ⟨_, rfl⟩
      rw [hqe] at hqk
      have HST := Lib.hid (lotR_step hrl.out (by omega) sd)
      rw [hqe] at HQ HST
      clear hqe
      go_wp2_with fail
      refine (take_as w.heap.size g w.heap.size q _ bs (0 :: rest) _ hc.out h0.out (by have := hbl.out; omega) (by have := hbl.out; omega) HQ.out).mono ?_
      rintro e w3 ⟨rfl, hc3, hb3, r, hrg, hg3, hs3⟩
      rw [cons_at]
      obtain ⟨z, hz⟩ : ∃ z, rest[q]?.getD 0 = z := ⟨_, rfl⟩
      rw [hz]
      have HZ := Lib.hid hz
      have HC3 : Hid (Chain w3 w.heap.size g (bs.eraseIdx (q + 1)) (0 :: rest.eraseIdx q)) := hc3
      have HO3 : Hid (w3.ownsRow g 3 1 (.slice a m cap) m (out.map (Value.int .i64))) := ho.out.kept hg3 (by
        cases hb : (Value.slice a m cap).ownBlock with
        | none => exact .inl rfl
        | some j => have := (ho.out.lt j hb).1; right; intro e2; injection e2 with e3; omega)
      have hB3 := hB.trans (hb3.mono (Nat.le_refl _))
      have H03 : Hid ((bs.eraseIdx (q + 1))[0]?.getD 0 = w.heap.size) := by unfold Hid; rw [get_erase, if_pos (by omega)]; exact h0.out
      have hg3s : g ≤ w3.heap.size := by omega
      clear hc3 hg3 hb3 hs3 hz hc ho h0
      go_wp2_with (at_builtin; refine wpList_append_own _ rfl _ _ 25 rfl g 3 i0 (.int .i64 0) 1 8 Try.underlying25 hi hz0 hz1 hz2 rfl (by decide) _ _ _ rfl (HO3.out.alloc _) ⟨w3.heap.size, 0, none⟩ 1 1 [.int .i64 z] rfl rfl (cell_one_new _ _ _) (by simp [Value.oneCell']) (by unfold maxLen; omega) (by omega) (by simp; omega) ?_; intro v' w4 hown' hgrow _; obtain ⟨a4, cap4, rfl⟩ := owns_slice hown')
      have hrow : ∀ j, (Value.slice a m cap).ownBlock = some j → g ≤ j := fun j ej => (HO3.out.lt j ej).1
      have HC4 : Hid (Chain w4 w.heap.size g (bs.eraseIdx (q + 1)) (0 :: rest.eraseIdx q)) := (HC3.out.kept (w' := w3.alloc (.cells #[.int .i64 z] 3)) (by simp) (fun j _ hj => Below.heap_alloc _ _ _ hj)).kept hgrow.size (fun j hj hj2 => hgrow.block j hj2 (fun e => by have := hrow j e.symm; omega))
      have hB4 := (hB3.alloc (by omega) (.cells #[.int .i64 z] 3)).grown hgrow (by simp; omega) (fun j e => by have := hrow j e; omega)
      have HO4 : Hid (w4.ownsRow g 3 1 (.slice a4 (m + 1) cap4) (m + 1) ((out ++ [z]).map (Value.int .i64))) := by
        unfold Hid; rw [List.map_append]; exact hown'
      have hg4 : g ≤ w4.heap.size := by have := hgrow.size; simp at this; omega
      have hbl4 := Lib.hid (hbl.out)
      clear hown' hgrow hrow
      have hqd : (sd : Int) / (k : Int) = ((sd / k : Nat) : Int) := (Int.natCast_ediv sd k).symm
      have hd9 : sd / k ≤ sd := Nat.div_le_self sd k
      obtain ⟨d, hdd⟩ : ∃ d, sd / k = d := ⟨_, rfl⟩
      rw [hdd] at hqd hd9 HST
      clear hdd
      go_wp2
      go_roundw
      case rel =>
        refine ⟨k - 1, d, m + 1, bs.eraseIdx (q + 1), rest.eraseIdx q, out ++ [z], a4, cap4, by omega, by omega, by go_num, by rw [hqd, IntWalk.wrap64_in _ ⟨by omega, by omega⟩], rfl, H03.out, HC4.out, ?_, ?_, ?_, HO4.out, hB4, hg4⟩
        · unfold Hid; rw [erase_length hrl.out hqk]
        · unfold Hid; rw [List.length_eraseIdx, if_pos (by have := hbl.out; omega)]; have := hbl.out; omega
        · unfold Hid
          rw [← hall.out, HST.out, HZ.out, List.append_assoc]; rfl
      case measure => simp [intOf]; omega
    · obtain rfl : k = 0 := by omega
      have hgt : decide (0 < ((0 : Nat) : Int)) = false := by decide
      have hmn : m = n := by omega
      subst hmn
      have HL : Hid (out = lotsOf m s) := by
        have h1 : rest = [] := List.length_eq_zero_iff.1 hrl.out
        have h2 := hall.out
        rw [h1, lotR_nil, List.append_nil] at h2
        exact h2
      go_wp2
      go_ret2
      refine ⟨a, cap, rfl, ?_, hB⟩
      rw [← HL.out]
      exact ownsRow_low ho.out hwg

set_option maxHeartbeats 1000000 in
/-- **impl.LotsOf**, at arguments out of range. -/
theorem implLotsOf_no (n s : Int) (w : World) (h : okLots n s = false) :
    Calls Try.prog 14 #[.int .i64 n, .int .i64 s] w fun e w' => e = .returned (.tuple #[.slice none 0 0, .bool false]) ∧ w = w' := by
  by_cases h1 : n < 1
  · have hd1 : decide (n < 1) = true := decide_eq_true h1
    clear h
    go_enter Try.func14, Try.ntmps14
    go_wp2
    go_ret2
    exact ⟨rfl, rfl⟩
  · by_cases h5 : 5 < n
    · have hd1 : decide (n < 1) = false := decide_eq_false h1
      have hd5 : decide (5 < n) = true := decide_eq_true h5
      clear h
      go_enter Try.func14, Try.ntmps14
      go_wp2
      go_ret2
      exact ⟨rfl, rfl⟩
    · have hsv : inB s 0 999 = false := by
        rw [okLots, inB_yes (by omega) (by omega), Bool.true_and] at h; exact h
      have hd1 : decide (n < 1) = false := decide_eq_false h1
      have hd5 : decide (5 < n) = false := decide_eq_false h5
      have HSV := Lib.hid hsv; clear hsv h
      go_enter Try.func14, Try.ntmps14
      go_wp2_with fail
      refine (seed_any _ _).mono ?_
      rintro e w' ⟨he, rfl⟩
      rw [HSV.out] at he
      subst he
      go_wp2
      go_ret2
      exact ⟨rfl, rfl⟩

/-- **impl.LotsOf**. -/
theorem implLotsOf_any (n s : Int) (w : World) :
    Calls Try.prog 14 #[.int .i64 n, .int .i64 s] w (Told w (lotsI n s) (okLots n s)) := by
  cases h : okLots n s
  · refine (implLotsOf_no n s w h).mono ?_
    rintro e w' ⟨rfl, rfl⟩
    rw [lotsI_no h]
    exact ⟨none, 0, rfl, World.ownsRow_nil _ _ _ _, Below.refl _ _⟩
  · have hh := okLots_of h
    obtain ⟨m, rfl⟩ := Int.eq_ofNat_of_zero_le (show 0 ≤ n by omega)
    obtain ⟨q, rfl⟩ := Int.eq_ofNat_of_zero_le (show 0 ≤ s by omega)
    refine (implLotsOf_yes m q w (by omega) (by omega) (by omega)).mono ?_
    rintro e w' ⟨a, cap, rfl, ho, hb⟩
    have hl : (lotsI (m : Int) (q : Int)).length = m := by rw [lotsI_yes h, lotsOf_length, Int.toNat_natCast]
    refine ⟨a, cap, by rw [hl], ?_, hb⟩
    rw [hl, lotsI_yes h]; exact ho

/-- **impl.LotsOf**, its answer named. -/
theorem implLotsOf_as (n s : Int) (pl : List Int) (ok : Bool) (w : World) (h1 : lotsI n s = pl) (h2 : okLots n s = ok) :
    Calls Try.prog 14 #[.int .i64 n, .int .i64 s] w (Told w pl ok) := by
  subst h1; subst h2; exact implLotsOf_any n s w

end Go.Proofs.Ytapmmbngfklahaa
