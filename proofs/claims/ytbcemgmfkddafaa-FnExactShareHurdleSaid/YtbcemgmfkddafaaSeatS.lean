/-
  spec's votes, seats, methods, divisors and the next seat: contracts. They write into no memory.
-/
import Derived.Test.YtbcemgmfkddafaaGrp4
import Derived.Test.YtbcemgmfkddafaaGrp5
namespace Go.Proofs.Ytbcemgmfkddafaa
open Go.RowKit

attribute [local go_sem] Oper.semAt_some

theorem bool_all {a b c : Bool} (h : a = false) : (a && (b && c)) = false := by rw [h]; rfl
set_option maxHeartbeats 2000000 in
/-- **l21Votes**. -/
theorem specVotes_as (a : Option Addr) (len cap : Nat) (zs : List Int) (v : Bool) (w : World) (h : IsInts w a len cap zs) (hv : voteB zs = v) :
    Calls Try.prog 40 #[.slice a len cap] w fun e w' => e = .returned (.bool v) ∧ w = w' := by
  obtain ⟨h1, h2, h3, h4⟩ := h
  have HV : Hid (v = (toB zs 99 len && (inB (len : Int) 1 5 && decide (0 < totI zs)))) := by unfold Hid; rw [← hv]; unfold voteB choB; rw [h1, Bool.and_assoc]
  have H1 := Lib.hid h1
  have H4 := Lib.hid h4; clear h4 h1 hv
  go_enter Try.func40, Try.ntmps40
  go_wp2
  go_loop [3, 4] (fun s i => ∃ (k : Nat) (t : Int), k ≤ len ∧ i = .int .i64 k ∧ s = .int .i64 t ∧ (0 ≤ t ∧ t ≤ 99 * (k : Int)) ∧ Hid (totI (zs.take k) = t) ∧ Hid (toB zs 99 k = true)) (fun _ i => len - (intOf i).toNat)
  case atStart => exact ⟨0, 0, Nat.zero_le _, rfl, rfl, by omega, by simp [Hid, totI_nil], by simp [Hid, toB]⟩
  case round =>
    obtain ⟨k, t, hk, rfl, rfl, ht, hT, hc⟩ := hrel
    by_cases hlt : k < len
    · obtain ⟨b, off, rfl, hb, hcell⟩ := H4.out (by omega)
      have hck := hcell k hlt
      have HS := toB_succ zs 99 k
      rw [hc.out, Bool.true_and] at HS
      have HS := Lib.hid HS
      obtain ⟨z, hz⟩ : ∃ z, zs[k]?.getD 0 = z := ⟨_, rfl⟩
      have HT2 : Hid (totI (zs.take (k + 1)) = t + z) := by rw [Hid, tot_take (by rw [H1.out]; exact hlt), hz, hT.out]
      rw [hz] at hck HS
      clear hcell hz
      cases hin : inB z 0 99
      · have HI := Lib.hid hin
        go_wp2_with fail
        refine (l6In_any _ _ _ _).mono ?_
        rintro e w' ⟨he, rfl⟩
        rw [HI.out] at he
        subst he
        go_wp2
        go_ret
        refine ⟨ret_bool ?_, rfl⟩
        rw [HV.out]
        exact (bool_all (toB_no (by rw [HS.out, HI.out]) hlt)).symm
      · have HI := Lib.hid hin
        have hzb : 0 ≤ z ∧ z ≤ 99 := by simpa [inB] using hin
        clear hin
        go_wp2_with fail
        refine (l6In_any _ _ _ _).mono ?_
        rintro e w' ⟨he, rfl⟩
        rw [HI.out] at he
        subst he
        go_wp2
        go_round
        case rel => exact ⟨k + 1, t + z, by omega, by go_num, rfl, by omega, HT2, by unfold Hid; rw [HS.out, HI.out]⟩
        case measure => simp [intOf]; omega
    · obtain rfl : k = len := by omega
      have HE : Hid (totI zs = t) := by rw [Hid, ← hT.out, List.take_of_length_le (by rw [H1.out]; exact Nat.le_refl _)]
      cases hin : inB (k : Int) 1 5
      · have HI := Lib.hid hin; clear hin
        go_wp2_with fail
        refine (l6In_any _ _ _ _).mono ?_
        rintro e w' ⟨he, rfl⟩
        rw [HI.out] at he
        subst he
        go_wp2
        go_ret
        refine ⟨ret_bool ?_, rfl⟩
        rw [HV.out, hc.out, HI.out]; rfl
      · have HI := Lib.hid hin; clear hin
        go_wp2_with fail
        refine (l6In_any _ _ _ _).mono ?_
        rintro e w' ⟨he, rfl⟩
        rw [HI.out] at he
        subst he
        go_wp2
        go_ret
        refine ⟨ret_bool ?_, rfl⟩
        rw [HV.out, hc.out, HI.out, HE.out, Bool.true_and, Bool.true_and]

set_option maxHeartbeats 2000000 in
/-- **l21Given**. -/
theorem specGiven_as (a : Option Addr) (len cap : Nat) (zs : List Int) (n : Nat) (v : Bool) (w : World) (h : IsInts w a len cap zs) (hn : n ≤ 1048600) (hv : giveB zs n = v) :
    Calls Try.prog 41 #[.slice a len cap, .int .i64 (n : Int)] w fun e w' => e = .returned (.bool v) ∧ w = w' := by
  obtain ⟨h1, h2, h3, h4⟩ := h
  have HV : Hid (v = (toB zs 20 len && (decide (len = n) && decide (totI zs ≤ 20)))) := by unfold Hid; rw [← hv]; unfold giveB; rw [h1]
  have H1 := Lib.hid h1
  have H4 := Lib.hid h4; clear h4 h1 hv
  go_enter Try.func41, Try.ntmps41
  go_wp2
  go_loop [5, 6] (fun s i => ∃ (k : Nat) (t : Int), k ≤ len ∧ i = .int .i64 k ∧ s = .int .i64 t ∧ (0 ≤ t ∧ t ≤ 20 * (k : Int)) ∧ Hid (totI (zs.take k) = t) ∧ Hid (toB zs 20 k = true)) (fun _ i => len - (intOf i).toNat)
  case atStart => exact ⟨0, 0, Nat.zero_le _, rfl, rfl, by omega, by simp [Hid, totI_nil], by simp [Hid, toB]⟩
  case round =>
    obtain ⟨k, t, hk, rfl, rfl, ht, hT, hc⟩ := hrel
    by_cases hlt : k < len
    · obtain ⟨b, off, rfl, hb, hcell⟩ := H4.out (by omega)
      have hck := hcell k hlt
      have HS := toB_succ zs 20 k
      rw [hc.out, Bool.true_and] at HS
      have HS := Lib.hid HS
      obtain ⟨z, hz⟩ : ∃ z, zs[k]?.getD 0 = z := ⟨_, rfl⟩
      have HT2 : Hid (totI (zs.take (k + 1)) = t + z) := by rw [Hid, tot_take (by rw [H1.out]; exact hlt), hz, hT.out]
      rw [hz] at hck HS
      clear hcell hz
      cases hin : inB z 0 20
      · have HI := Lib.hid hin
        go_wp2_with fail
        refine (l6In_any _ _ _ _).mono ?_
        rintro e w' ⟨he, rfl⟩
        rw [HI.out] at he
        subst he
        go_wp2
        go_ret
        refine ⟨ret_bool ?_, rfl⟩
        rw [HV.out]
        exact (bool_all (toB_no (by rw [HS.out, HI.out]) hlt)).symm
      · have HI := Lib.hid hin
        have hzb : 0 ≤ z ∧ z ≤ 20 := by simpa [inB] using hin
        clear hin
        go_wp2_with fail
        refine (l6In_any _ _ _ _).mono ?_
        rintro e w' ⟨he, rfl⟩
        rw [HI.out] at he
        subst he
        go_wp2
        go_round
        case rel => exact ⟨k + 1, t + z, by omega, by go_num, rfl, by omega, HT2, by unfold Hid; rw [HS.out, HI.out]⟩
        case measure => simp [intOf]; omega
    · obtain rfl : k = len := by omega
      have HE : Hid (totI zs = t) := by rw [Hid, ← hT.out, List.take_of_length_le (by rw [H1.out]; exact Nat.le_refl _)]
      by_cases hkn : k = n
      · subst hkn
        have he : ((k : Int) == (k : Int)) = true := by simp
        go_wp2
        go_ret
        refine ⟨ret_bool ?_, rfl⟩
        rw [HV.out, hc.out, HE.out]; simp
      · have he : ((k : Int) == (n : Int)) = false := by simp; omega
        have HKN := Lib.hid hkn; clear hkn
        go_wp2
        go_ret
        refine ⟨ret_bool ?_, rfl⟩
        rw [HV.out, hc.out, decide_eq_false HKN.out]; rfl

set_option maxHeartbeats 1000000 in
/-- **l21Method**. -/
theorem specMeth_as (m : Int) (v : Bool) (w : World) (hv : methB m = v) :
    Calls Try.prog 88 #[.int .i64 m] w fun e w' => e = .returned (.bool v) ∧ w = w' := by
  have HV := Lib.hid hv; clear hv
  by_cases h1 : m = 1
  · subst h1
    go_enter Try.func88, Try.ntmps88
    go_wp2
    go_ret
    exact ⟨ret_bool HV.out, rfl⟩
  · have e1 : (m == 1) = false := by simpa using h1
    by_cases h2 : m = 2
    · subst h2
      go_enter Try.func88, Try.ntmps88
      go_wp2
      go_ret
      exact ⟨ret_bool HV.out, rfl⟩
    · have e2 : (m == 2) = false := by simpa using h2
      have HF : Hid (v = false) := by rw [Hid, ← HV.out]; unfold methB; rw [decide_eq_false h1, decide_eq_false h2]; rfl
      clear h1 h2
      go_enter Try.func88, Try.ntmps88
      go_wp2
      go_ret
      exact ⟨ret_bool HF.out.symm, rfl⟩

theorem divI_bound {m g : Int} (hm : methB m = true) (hg : -1 ≤ g ∧ g ≤ 20) : (-2 ≤ m * g ∧ m * g ≤ 40) ∧ (-1 ≤ divI m g ∧ divI m g ≤ 41) := by
  unfold divI
  rcases (methB_iff m).1 hm with e | e <;> subst e <;> omega
set_option maxHeartbeats 1000000 in
/-- **l21Divisor**. -/
theorem specDiv_as (g m d : Int) (w : World) (hm : methB m = true) (hg : -1 ≤ g ∧ g ≤ 20) (hd : divI m g = d) :
    Calls Try.prog 92 #[.int .i64 g, .int .i64 m] w fun e w' => e = .returned (.int .i64 d) ∧ w = w' := by
  obtain ⟨b1, b2⟩ := divI_bound hm hg
  have HD : Hid (m * g + 1 = d) := hd
  obtain ⟨p, hp⟩ : ∃ p, m * g = p := ⟨_, rfl⟩
  rw [hp] at b1 HD
  have hw1 : IntKind.i64.wrap (m * g) = p := by rw [hp]; exact IntWalk.i64_in _ (by omega)
  clear hm hg hd b2 hp
  go_enter Try.func92, Try.ntmps92
  go_wp2
  go_ret
  exact ⟨ret_int HD.out, rfl⟩

theorem nextF_snoc (V G : Int → Int) (m z : Int) : ∀ (l : List Int) (b : Int), nextF V G m b (l ++ [z]) = if V (nextF V G m b l) * divI m (G z) < V z * divI m (G (nextF V G m b l)) then z else nextF V G m b l
  | [], _ => rfl
  | k :: t, b => by rw [List.cons_append, nextF, nextF_snoc V G m z t, nextF]
theorem next_take {V G : Int → Int} {m b0 b z : Int} {lots : List Int} {k : Nat} {v : Bool} (h : k < lots.length) (hk : 1 ≤ k) (hz : lots[k]?.getD 0 = z) (hb : nextF V G m b0 ((lots.drop 1).take (k - 1)) = b) (hv : decide (V b * divI m (G z) < V z * divI m (G b)) = v) :
    nextF V G m b0 ((lots.drop 1).take (k + 1 - 1)) = if v = true then z else b := by
  have hl : k - 1 < (lots.drop 1).length := by simp; omega
  have e : (lots.drop 1)[k - 1] = z := by rw [← hz, List.getElem_drop]; simp [h, show 1 + (k - 1) = k by omega]
  rw [show k + 1 - 1 = (k - 1) + 1 by omega, List.take_succ_eq_append_getElem hl, nextF_snoc, hb, e]
  subst hv
  by_cases g : V b * divI m (G z) < V z * divI m (G b)
  · rw [if_pos g, if_pos (decide_eq_true g)]
  · rw [if_neg g, decide_eq_false g, if_neg (by simp)]

set_option maxRecDepth 100000 in
set_option maxHeartbeats 4000000 in
/-- **l21Next**. -/
theorem specNxt_as (a : Option Addr) (n cap : Nat) (vs : List Int) (a' : Option Addr) (cap' : Nat) (gs : List Int) (m : Int) (al : Option Addr) (cl : Nat) (lots : List Int) (r : Int) (w : World) (h : IsInts w a n cap vs) (h' : IsInts w a' n cap' gs) (hl : IsInts w al n cl lots)
    (hv : toB vs 99 n = true) (hg : toB gs 20 n = true) (hm : methB m = true) (hlb : lotsB lots = true) (hr : nextL (seV vs) (seV gs) m lots = r) :
    Calls Try.prog 89 #[.slice a n cap, .slice a' n cap', .int .i64 m, .slice al n cl] w fun e w' => e = .returned (.int .i64 r) ∧ Dr w w' := by
  have hn := hl.1
  have hn1 : 1 ≤ n := by have := (lotsB_len hlb).1; omega
  have hn5 : n ≤ 5 := by have := (lotsB_len hlb).2; omega
  have HMEM : Hid (∀ k, k < n → 0 ≤ lots[k]?.getD 0 ∧ lots[k]?.getD 0 < (n : Int)) := fun k hk => by
    have := lotsB_mem hlb (lots[k]?.getD 0) (by rw [List.getElem?_eq_getElem (by omega)]; simp)
    omega
  obtain ⟨vb, vo, rfl, hvb, hvc⟩ := h.2.2.2 (by omega)
  obtain ⟨gb, go, rfl, hgb, hgc⟩ := h'.2.2.2 (by omega)
  obtain ⟨lb, lo, rfl, hlb', hlc⟩ := hl.2.2.2 (by omega)
  have HVC := Lib.hid hvc
  have HGC := Lib.hid hgc
  have HLC := Lib.hid hlc
  have HV : Hid (∀ i, i < n → 0 ≤ vs[i]?.getD 0 ∧ vs[i]?.getD 0 ≤ 99) := fun i hi => toB_at hv hi
  have HG : Hid (∀ i, i < n → 0 ≤ gs[i]?.getD 0 ∧ gs[i]?.getD 0 ≤ 20) := fun i hi => toB_at hg hi
  have HL := Lib.hid hn
  obtain ⟨b0, hb0⟩ : ∃ b0, lots[0]?.getD 0 = b0 := ⟨_, rfl⟩
  have c0 := hlc 0 (by omega)
  rw [hb0] at c0
  simp only [Nat.add_zero] at c0
  have hb0r := HMEM.out 0 (by omega)
  rw [hb0] at hb0r
  have HR : Hid (nextF (seV vs) (seV gs) m b0 (lots.drop 1) = r) := by unfold Hid; rw [← hr, ← hb0]; rfl
  clear hv hg hr h h' hl hvc hgc hlc hlb hn hb0
  go_enter Try.func89, Try.ntmps89
  go_wp2
  go_loopw [9, 10, 11] (fun bv iv _ wr => ∃ (k : Nat) (b : Int), 1 ≤ k ∧ k ≤ n ∧ iv = .int .i64 (k : Int) ∧ bv = .int .i64 b ∧ (0 ≤ b ∧ b < (n : Int)) ∧ Hid (nextF (seV vs) (seV gs) m b0 ((lots.drop 1).take (k - 1)) = b) ∧ Dr w wr) (fun _ iv _ _ => n - (intOf iv).toNat)
  case atStart => exact ⟨1, b0, Nat.le_refl _, hn1, rfl, rfl, hb0r, rfl, Dr.refl _⟩
  case round =>
    clear c0
    obtain ⟨k, b, hk1, hk, rfl, rfl, hbr, hp, hd⟩ := hrel
    by_cases hlt : k < n
    · have ck := ((hd.below w.heap.size).cell (p := ⟨lb, lo + k, none⟩) hlb').trans (HLC.out k hlt)
      obtain ⟨z, hz⟩ : ∃ z, lots[k]?.getD 0 = z := ⟨_, rfl⟩
      rw [hz] at ck
      have hzr := HMEM.out k hlt
      rw [hz] at hzr
      obtain ⟨v, hvv⟩ : ∃ v, decide (seV vs b * divI m (seV gs z) < seV vs z * divI m (seV gs b)) = v := ⟨_, rfl⟩
      have HNX := Lib.hid (next_take (by rw [HL.out]; exact hlt) hk1 hz hp.out hvv)
      obtain ⟨x, rfl⟩ := Int.eq_ofNat_of_zero_le hzr.1
      obtain ⟨y, rfl⟩ := Int.eq_ofNat_of_zero_le hbr.1
      rw [seV_nat, seV_nat, seV_nat, seV_nat] at hvv
      have hxn : x < n := by omega
      have hyn : y < n := by omega
      have cvx := ((hd.below w.heap.size).cell (p := ⟨vb, vo + x, none⟩) hvb).trans (HVC.out x hxn)
      have cvy := ((hd.below w.heap.size).cell (p := ⟨vb, vo + y, none⟩) hvb).trans (HVC.out y hyn)
      have cgx := ((hd.below w.heap.size).cell (p := ⟨gb, go + x, none⟩) hgb).trans (HGC.out x hxn)
      have cgy := ((hd.below w.heap.size).cell (p := ⟨gb, go + y, none⟩) hgb).trans (HGC.out y hyn)
      have bvx := HV.out x hxn
      have bvy := HV.out y hyn
      have bgx := HG.out x hxn
      have bgy := HG.out y hyn
      obtain ⟨vx, evx⟩ : ∃ t, vs[x]?.getD 0 = t := ⟨_, rfl⟩
      obtain ⟨vy, evy⟩ : ∃ t, vs[y]?.getD 0 = t := ⟨_, rfl⟩
      obtain ⟨gx, egx⟩ : ∃ t, gs[x]?.getD 0 = t := ⟨_, rfl⟩
      obtain ⟨gy, egy⟩ : ∃ t, gs[y]?.getD 0 = t := ⟨_, rfl⟩
      rw [evx] at cvx bvx hvv
      rw [evy] at cvy bvy hvv
      rw [egx] at cgx bgx hvv
      rw [egy] at cgy bgy hvv
      obtain ⟨dx, edx⟩ : ∃ t, divI m gx = t := ⟨_, rfl⟩
      obtain ⟨dy, edy⟩ : ∃ t, divI m gy = t := ⟨_, rfl⟩
      have bdx := divI_in hm bgx
      have bdy := divI_in hm bgy
      rw [edx] at bdx hvv
      rw [edy] at bdy hvv
      have px := mul_bound (x := vx) (y := dy) ⟨by omega, by omega⟩ ⟨by omega, by omega⟩
      have py := mul_bound (x := vy) (y := dx) ⟨by omega, by omega⟩ ⟨by omega, by omega⟩
      have hw1 : IntKind.i64.wrap (vx * dy) = vx * dy := IntWalk.i64_in _ (by omega)
      have hw2 : IntKind.i64.wrap (vy * dx) = vy * dx := IntWalk.i64_in _ (by omega)
      have HDX := Lib.hid edx
      have HDY := Lib.hid edy
      have hxi : (x : Int) < (n : Int) := by omega
      have hyi : (y : Int) < (n : Int) := by omega
      have hgx : -1 ≤ gx ∧ gx ≤ 20 := by omega
      have hgy : -1 ≤ gy ∧ gy ≤ 20 := by omega
      clear edx edy evx evy egx egy px py hz
      go_wp2_with fail
      go_quiet (first | (go_at_call 92; exact quiet_same (specDiv_as gy m dy _ hm hgy HDY.out)) | (go_at_call 92; exact quiet_same (specDiv_as gx m dx _ hm hgx HDX.out)))
      cases v
      · go_wp2
        go_roundw
        case rel => exact ⟨k + 1, (y : Int), by omega, by omega, by go_num, rfl, by omega, HNX.out, hd.drewN _⟩
        case measure => simp [intOf]; omega
      · go_wp2
        go_roundw
        case rel => exact ⟨k + 1, (x : Int), by omega, by omega, by go_num, rfl, by omega, HNX.out, hd.drewN _⟩
        case measure => simp [intOf]; omega
    · obtain rfl : k = n := by omega
      have HX : Hid (b = r) := by
        have := hp.out
        rw [List.take_of_length_le (by rw [List.length_drop, HL.out]; exact Nat.le_refl _), HR.out] at this
        exact this.symm
      go_wp2
      go_ret
      exact ⟨ret_int HX.out, hd⟩

end Go.Proofs.Ytbcemgmfkddafaa
