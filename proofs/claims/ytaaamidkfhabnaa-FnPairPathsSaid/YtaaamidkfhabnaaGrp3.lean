/-
  l1Has: whether a list has a number. No condition but what the theorem says.
  spec.BallotValid: what it answers at every list of at most 1048600 ints and every number; it writes nothing. No condition but what each theorem says.
  spec.BallotText: the text of a ballot; it writes into no memory that was there. No condition but what each theorem says.
  What the program knows of the type byte; a candidate's number.
  spec.BallotParse: the ballot of a text, in memory of the call's own; texts and ballots lead to each other. No condition but what each theorem says.
  spec.BallotParse and impl.BallotParse answer alike: for every text of at most 1048576 bytes; neither writes into memory that was there, and what they return is memory of their own.
  spec.BallotParse and impl.BallotParse answer alike: for every text of at most 1048576 bytes; what they return is memory of their own.
  spec.l3Pile and impl's Pile.valid answer alike: for every pile with a text of at most 1048576 bytes; neither writes into memory that was there.
  A region that draws its order, whose operations only read what was there and whose callees write nothing that was there: one walk, in the order of the text. No function of the seat.
  spec.PilesValid: for every slice of piles with texts of at most 1048600 bytes; it writes into no memory that was there.
-/
import Derived.Test.YtaaamidkfhabnaaBase
import Derived.Test.YtaaamidkfhabnaaGrp1
import Derived.Laws.BytesArg
import Derived.Laws.Concat
import Derived.Maps.AppendAt
import Derived.Test.YtaaamidkfhabnaaValid
import Derived.Test.YtaaamidkfhabnaaGrp2
import Derived.Deep.Onto
import Derived.BigQuiet
import Derived.Laws.IdiomStrings
namespace Go.Proofs.Ytaaamidkfhabnaa
open Go.RowKit

set_option maxHeartbeats 400000 in
/-- **l1Has**: whether a list has a number. -/
theorem l1Has_any (a : Option Addr) (len cap : Nat) (zs : List Int) (c : Int) (w : World) (h : IsInts w a len cap zs) :
    Calls Try.prog 105 #[.slice a len cap, .int .i64 c] w fun e w' => e = .returned (.bool (hasB zs c)) ∧ w = w' := by
  obtain ⟨h1, h2, h3, h4⟩ := h
  have H1 := Lib.hid h1; clear h1
  have H4 := Lib.hid h4; clear h4
  go_enter Try.func105, Try.ntmps105
  go_wp2
  go_loop [5] (fun i => ∃ k : Nat, k ≤ len ∧ i = .int .i64 k ∧ Hid (hasB (zs.take k) c = false)) (fun i => len - (intOf i).toNat)
  case atStart => exact ⟨0, Nat.zero_le _, rfl, by simp [Hid, hasB]⟩
  case round =>
    obtain ⟨k, hk, rfl, hc⟩ := hrel
    by_cases hlt : k < len
    · obtain ⟨b, off, rfl, hb, hcell⟩ := H4.out (by omega)
      have hck := hcell k hlt
      have HC := hasB_snoc zs k c (by rw [H1.out]; exact hlt)
      rw [hc.out, Bool.false_or] at HC
      have HC' := Lib.hid HC
      clear HC hcell
      by_cases heq : (zs[k]?.getD 0 == c) = true
      · go_wp2
        go_ret
        refine ⟨ret_bool ?_, rfl⟩
        have h5 := HC'.out
        rw [heq] at h5
        simp only [hasB, List.contains_iff_mem] at h5
        have h6 : c ∈ zs := List.mem_of_mem_take h5
        simp [hasB, h6]
      · have heq' : (zs[k]?.getD 0 == c) = false := by simpa using heq
        clear heq
        go_wp2
        go_round
        case rel => exact ⟨k + 1, by omega, by go_num, by unfold Hid; rw [HC'.out, heq']⟩
        case measure => simp [intOf]; omega
    · go_wp2
      go_ret
      refine ⟨ret_bool ?_, rfl⟩
      have h5 := hc.out
      rw [List.take_of_length_le (by rw [H1.out]; omega)] at h5
      exact h5.symm

end Go.Proofs.Ytaaamidkfhabnaa

namespace Go.Proofs.Ytaaamidkfhabnaa
open Go.RowKit

set_option maxHeartbeats 400000 in
/-- **spec.BallotValid**. -/
theorem specValid_any (a : Option Addr) (len cap : Nat) (zs : List Int) (n : Int) (w : World) (h : IsInts w a len cap zs) :
    Calls Try.prog 85 #[.slice a len cap, .int .i64 n] w fun e w' => e = .returned (.bool (validB zs n)) ∧ Dr w w' := by
  obtain ⟨m, hm⟩ : ∃ m, wrap64 (n - 1) = m := ⟨_, rfl⟩
  have H := Lib.hid h; clear h
  have HV : Hid (validB zs n = (goodTo zs m len && inB n 1 5)) := by unfold Hid validB; rw [hm, H.out.1]
  go_enter Try.func85, Try.ntmps85
  go_wp2
  go_loopw [5] (fun i wr => ∃ k : Nat, k ≤ len ∧ i = .int .i64 k ∧ Hid (goodTo zs m k = true) ∧ Dr w wr) (fun i _ => len - (intOf i).toNat)
  case atStart => exact ⟨0, Nat.zero_le _, rfl, by simp [Hid, goodTo], Dr.refl _⟩
  case round =>
    obtain ⟨k, hk, rfl, hc, hd⟩ := hrel
    by_cases hlt : k < len
    · have HI := H.out.dr hd
      have HK := HI.take hk
      obtain ⟨h1, h2, h3, h4⟩ := HI
      obtain ⟨b, off, rfl, hb, hcell⟩ := h4 (by omega)
      have hck := hcell k hlt
      have HS := goodTo_succ zs m k
      rw [hc.out, Bool.true_and] at HS
      have HS := Lib.hid HS
      clear h1 h4 hcell
      by_cases hin : inB (zs[k]?.getD 0) 0 m = true
      · cases hh : hasB (zs.take k) (zs[k]?.getD 0)
        all_goals
          go_wp2
          go_quiet (first | (go_at_call 87; exact quiet_same (l6In_any _ _ _ _)) | (go_at_call 105; exact quiet_same (l1Has_any _ _ _ _ _ _ (HK.drewN _))))
          go_wp2
        · go_roundw
          case rel => exact ⟨k + 1, by omega, by go_num, by unfold Hid; rw [HS.out, hin, hh]; rfl, hd.drewN _⟩
          case measure => simp [intOf]; omega
        · go_ret
          refine ⟨ret_bool ?_, hd.drewN _⟩
          rw [HV.out, goodTo_no (by rw [HS.out, hin, hh]; rfl) hlt]; rfl
      · have hin' : inB (zs[k]?.getD 0) 0 m = false := by simpa using hin
        clear hin
        go_wp2
        go_quiet (first | (go_at_call 87; exact quiet_same (l6In_any _ _ _ _)) | (go_at_call 105; exact quiet_same (l1Has_any _ _ _ _ _ _ (HK.drewN _))))
        go_wp2
        go_ret
        refine ⟨ret_bool ?_, hd.drewN _⟩
        rw [HV.out, goodTo_no (by rw [HS.out, hin']; rfl) hlt]; rfl
    · obtain rfl : k = len := by omega
      go_wp2_with (go_at_call 87; refine (l6In_any _ _ _ _).mono ?_; rintro e w' ⟨rfl, rfl⟩)
      go_ret
      refine ⟨ret_bool ?_, hd⟩
      rw [HV.out, hc.out, Bool.true_and]

end Go.Proofs.Ytaaamidkfhabnaa

namespace Go.Proofs.Ytaaamidkfhabnaa
open Go.RowKit

theorem ret_str {a b : ByteArray} (h : a = b) : Ending.returned (.string a) = .returned (.string b) := by rw [h]

set_option maxHeartbeats 1000000 in
/-- **spec.BallotText**. -/
theorem specText_any (a : Option Addr) (len cap : Nat) (zs : List Int) (w : World) (h : IsInts w a len cap zs) :
    Calls Try.prog 98 #[.slice a len cap] w fun e w' => e = .returned (.string (txtB zs)) ∧ Dr w w' := by
  have hm := h.2.2.1
  have H := Lib.hid h; clear h
  cases hv : validB zs 5
  · have e : Hid (txtB zs = ByteArray.empty) := by simp [Hid, txtB, hv]
    go_enter Try.func98, Try.ntmps98
    go_wp2
    go_loopw [3, 4] (fun o i wr => o = .string ByteArray.empty ∧ i = .int .i64 0 ∧ wr = w) (fun _ _ _ => 0)
    case atStart => exact ⟨rfl, rfl, rfl⟩
    case round =>
      obtain ⟨rfl, rfl, rfl⟩ := hrel
      by_cases hl : 0 < len
      · go_wp2_with fail
        refine (specValid_any _ _ _ zs _ _ H.out).mono ?_
        rintro e1 w1 ⟨rfl, hd⟩
        go_wp2
        go_ret
        exact ⟨ret_str e.out.symm, hd⟩
      · go_wp2
        go_ret
        exact ⟨ret_str e.out.symm, Dr.refl _⟩
  · have e : Hid (txtB zs = txtOf zs) := by simp [Hid, txtB, hv]
    have HR := Lib.hid (vB_mem hv).2.2
    go_enter Try.func98, Try.ntmps98
    go_wp2
    go_loopw [3, 4] (fun o i wr => ∃ k : Nat, k ≤ len ∧ i = .int .i64 k ∧ (∃ s, o = .string s ∧ s.size ≤ k ∧ Hid (s = txtOf (zs.take k))) ∧ Dr w wr) (fun _ i _ => len - (intOf i).toNat)
    case atStart => exact ⟨0, Nat.zero_le _, rfl, ⟨_, rfl, Nat.le_refl 0, by unfold Hid; rfl⟩, Dr.refl _⟩
    case round =>
      obtain ⟨k, hk, rfl, ⟨s, rfl, hs, hst⟩, hd⟩ := hrel
      obtain ⟨h1, _, _, h4⟩ := H.out.dr hd
      have H1 := Lib.hid h1; clear h1
      by_cases hlt : k < len
      · have hkz : k < zs.length := by rw [H1.out]; exact hlt
        have hr := HR.out (zs[k]?.getD 0) (by simp [hkz])
        obtain ⟨c, hcz⟩ := Int.eq_ofNat_of_zero_le hr.1
        obtain ⟨b, o, rfl, hb, hcell⟩ := h4 (by omega)
        have hz := hcell k hlt
        rw [hcz] at hz
        have hc5 : c < 5 := by omega
        have HT := take_snoc zs k hkz
        rw [hcz] at HT
        have HT := Lib.hid HT
        clear hcell h4 hr hcz hkz
        go_wp2_with fail
        refine (specValid_any _ _ _ zs _ _ (H.out.dr hd)).mono ?_
        rintro e1 w1 ⟨rfl, hd1⟩
        have hz1 := (Below.cell (p := ⟨b, o + k, none⟩) (hd1.below wr.heap.size) hb).trans hz
        clear hz
        go_wp2
        go_quiet (fail)
        go_wp2
        go_roundw
        case rel =>
          refine ⟨k + 1, by omega, by go_num, ⟨_, rfl, ?_, ?_⟩, (hd.trans hd1).drewN _⟩
          · rw [letter_of c hc5, ByteArray.size_append, txtOf_size]; simp; omega
          · unfold Hid; rw [letter_of c hc5, HT.out, txtOf_snoc, hst.out]
        case measure => simp [intOf]; omega
      · obtain rfl : k = len := by omega
        clear h4
        go_wp2
        go_ret
        refine ⟨ret_str ?_, hd⟩
        rw [e.out, hst.out, List.take_of_length_le (by rw [H1.out]; omega)]

end Go.Proofs.Ytaaamidkfhabnaa

namespace Go.Proofs.Ytaaamidkfhabnaa
open Go.RowKit Go.Shelf

/-- A candidate's number. -/
abbrev C5 := { z : Int // 0 ≤ z ∧ z < 5 }

theorem byte_info : (Try.prog.info? 5).map (fun i => (i.zero, i.size, i.bytes)) = some (some (.int .u8 0), 1, 1) := by kernel_rfl

end Go.Proofs.Ytaaamidkfhabnaa

namespace Go.Proofs.Ytaaamidkfhabnaa
open Go.RowKit

/-- What a row owns it owns while what lay there stays. -/
theorem owns_below {w w' : World} {base n size : Nat} {e : TypeId} {v : Value} {xs : List Value} (h : w.ownsRow base e size v n xs) (hb : Below w.heap.size w w') : w'.ownsRow base e size v n xs := by
  refine h.kept (row := none) ⟨hb.os, hb.tape, hb.output, hb.size, fun k hk _ => hb.block k hk⟩ ?_
  cases v.ownBlock <;> simp

/-- What is returned: the ballot, in memory of the call's own; and whether there is one. -/
def Parsed (w : World) (s : ByteArray) (e : Ending) (w' : World) : Prop :=
  ∃ a cap, e = .returned (.tuple #[.slice a (parseL s).length cap, .bool (validB (nums s) 5)]) ∧ w'.ownsRow w.heap.size 3 1 (.slice a (parseL s).length cap) (parseL s).length ((parseL s).map (Value.int .i64)) ∧ Below w.heap.size w w'

theorem ret_two {v v' : Value} {b b' : Bool} (h : v = v') (hb : b = b') : Ending.returned (.tuple #[v, .bool b]) = .returned (.tuple #[v', .bool b']) := by rw [h, hb]

set_option maxHeartbeats 1000000 in
/-- **spec.BallotParse**. -/
theorem specParse_any (s : ByteArray) (w : World) (hs : s.size ≤ 1048600) :
    Calls Try.prog 84 #[.string s] w (Parsed w s) := by
  obtain ⟨i0, hi, hz0, hz1, hz2⟩ := info_parts int_info
  have hown0 := World.ownsRow_lit (base := w.heap.size) (e := 3) (size := 1) w #[] 0 (Nat.le_refl _) (by unfold maxLen; omega) rfl
  have HO := Lib.hid hown0; clear hown0
  go_enter Try.func84, Try.ntmps84
  go_wp2
  go_loopw [4, 5] (fun o i wr => ∃ k : Nat, k ≤ s.size ∧ i = .int .i64 k ∧ (∃ v, o = v ∧ Hid (wr.ownsRow w.heap.size 3 1 v k (((nums s).take k).map (Value.int .i64)))) ∧ Below w.heap.size w wr) (fun _ i _ => s.size - (intOf i).toNat)
  case atStart => exact ⟨0, Nat.zero_le _, rfl, ⟨_, rfl, HO.out⟩, (Below.refl _ w).alloc (Nat.le_refl _) _⟩
  case round =>
    obtain ⟨k, hk, rfl, ⟨v, rfl, hov⟩, hB⟩ := hrel
    by_cases hlt : k < s.size
    · have h256 : (s[k].toNat : Int) < 256 := by have := s[k].toNat_lt; omega
      have HN := Lib.hid (nums_step s k hlt)
      have hsz := hB.size
      go_wp2_with (at_builtin; refine wpList_append_own _ rfl _ _ 30 rfl w.heap.size 3 i0 (.int .i64 0) 1 8 Try.underlying30 hi hz0 hz1 hz2 rfl (by decide) _ _ _ rfl (hov.out.alloc _) ⟨wr.heap.size, 0, none⟩ 1 1 [.int .i64 ((s[k].toNat : Int) - 97)] rfl rfl (cell_one_new _ _ _) (by simp [Value.oneCell']) (by unfold maxLen; omega) (by omega) (by simp; omega) ?_; intro v' w3 hown' hgrow _)
      have hB3 : Below w.heap.size w w3 := (hB.alloc hsz _).grown hgrow (by simp; omega) (fun j ej => (hov.out.lt j ej).1)
      clear hgrow
      go_roundw
      case rel =>
        refine ⟨k + 1, by omega, by go_num, ⟨v', rfl, ?_⟩, hB3⟩
        unfold Hid
        rw [HN.out, List.map_append]
        exact hown'
      case measure => simp [intOf]; omega
    · obtain rfl : k = s.size := by omega
      have hall : (nums s).take s.size = nums s := List.take_of_length_le (by rw [nums_length]; omega)
      have ho := hov.out
      rw [hall] at ho
      clear hov hall
      obtain ⟨a, cap, hv⟩ := owns_slice ho
      rw [hv] at ho ⊢
      clear hv
      have HI := Lib.hid (IsInts.of_owned ho hs)
      have HO2 := Lib.hid ho; clear ho
      cases hok : validB (nums s) 5
      · have hp : Hid (parseL s = []) := by simp [Hid, parseL, hok]
        go_wp2_with fail
        refine (specValid_any _ _ _ (nums s) _ _ HI.out).mono ?_
        rintro e w4 ⟨rfl, hd⟩
        have hB4 := hB.trans (hd.below _)
        have hsz4 := hB4.size
        go_wp2
        go_ret2
        refine ⟨some ⟨w4.heap.size, 0, none⟩, 0, ?_, ?_, ?_⟩
        · rw [hp.out, hok]; rfl
        · rw [hp.out]; exact World.ownsRow_lit w4 #[] 0 hsz4 (by unfold maxLen; omega) rfl
        · exact hB4.alloc hsz4 _
      · have hp : Hid (parseL s = nums s) := by simp [Hid, parseL, hok]
        go_wp2_with fail
        refine (specValid_any _ _ _ (nums s) _ _ HI.out).mono ?_
        rintro e w4 ⟨rfl, hd⟩
        have hB4 := hB.trans (hd.below _)
        go_wp2
        go_ret2
        refine ⟨a, cap, ?_, ?_, hB4⟩
        · rw [hp.out, nums_length, hok]; rfl
        · rw [hp.out, nums_length]; obtain ⟨q, rfl⟩ := hd; exact HO2.out

/-- **spec.BallotParse**, its answer named. -/
theorem specParse_as (s : ByteArray) (pl : List Int) (ok : Bool) (w : World) (hs : s.size ≤ 1048600) (h1 : parseL s = pl) (h2 : validB (nums s) 5 = ok) :
    Calls Try.prog 84 #[.string s] w fun e w' => ∃ a cap, e = .returned (.tuple #[.slice a pl.length cap, .bool ok]) ∧ w'.ownsRow w.heap.size 3 1 (.slice a pl.length cap) pl.length (pl.map (Value.int .i64)) ∧ Below w.heap.size w w' := by
  subst h1; subst h2; exact specParse_any s w hs

end Go.Proofs.Ytaaamidkfhabnaa

namespace Go.Proofs.Ytaaamidkfhabnaa
open Go.RowKit Go.Shelf

attribute [local go_sem] Oper.semAt_some

/-- Different numbers from 0 to n-1 are at most n. -/
theorem short_of : ∀ (n : Nat) (l : List Int), l.Nodup → (∀ z ∈ l, 0 ≤ z ∧ z < (n : Int)) → l.length ≤ n
  | 0, l, _, h => by
    cases l with
    | nil => exact Nat.le_refl 0
    | cons z t => have := h z (by simp); omega
  | n + 1, l, hd, h => by
    by_cases hm : (n : Int) ∈ l
    · have h1 := short_of n (l.erase (n : Int)) (hd.erase _) (fun z hz => by
        have hz' := (hd.mem_erase_iff).1 hz
        have := h z hz'.2
        have hne := hz'.1
        omega)
      rw [List.length_erase_of_mem hm] at h1
      omega
    · have h1 := short_of n l hd (fun z hz => by
        have := h z hz
        have hne : z ≠ (n : Int) := fun e => hm (e ▸ hz)
        omega)
      omega
theorem goodTo_nodup {zs : List Int} {m : Int} (h : goodTo zs m zs.length = true) : zs.Nodup := by
  rw [List.Nodup, List.pairwise_iff_getElem]
  intro i j hi hj hij e
  simp only [goodTo, List.all_eq_true, List.mem_range] at h
  have := h j hj
  simp only [Bool.and_eq_true, Bool.not_eq_true', hasB] at this
  have h2 := this.2
  simp only [hj, List.getElem?_eq_getElem, Option.getD_some, List.contains_eq_mem, decide_eq_false_iff_not] at h2
  exact h2 (by rw [← e]; exact List.mem_take_iff_getElem.2 ⟨i, by omega, rfl⟩)
theorem validB_short {zs : List Int} (h : validB zs 5 = true) : zs.length ≤ 5 := by
  have hm := (vB_mem h).2.2
  rw [validB_in (by omega) (by omega)] at h
  exact short_of 5 zs (goodTo_nodup h) hm

set_option maxRecDepth 100000 in
set_option maxHeartbeats 2000000 in
/-- letterCandidates's closure. -/
theorem letters1_in (F : Fence) (n : Nat) (hF : F.fn 113) (hro : F.round = none) (hn : 1 ≤ n) (l Bs n₀ : Nat) (s : ByteArray) (hreach : s.size ≤ 1048600) (hb : Bs < n₀) (J Jx : List Int → World → Prop)
    (hY : ∀ pre x W, J pre W → pre.length < s.size → YieldAt F (n - 1) Try.prog l #[.int .i64 x] W fun e W' =>
      (e = .returned (.bool true) ∧ J (pre ++ [x]) W' ∧ Below n₀ W W') ∨ (e = .returned (.bool false) ∧ Jx (pre ++ [x]) W'))
    (W : World) (hBs : W.cell? ⟨Bs, 0, none⟩ = some (.string s)) (h0 : J [] W) :
    CallsIn F n Try.prog 113 #[.func (.yield l) #[] #[], .pointer (some ⟨Bs, 0, none⟩)] W fun e W' => (∃ v, e = .returned v) ∧
      ((∃ ys, ys = upto (fun j => (nums s)[j]?.getD 0) s.size ∧ J ys W') ∨ (∃ pre, (∃ k, k ≤ s.size ∧ pre = upto (fun j => (nums s)[j]?.getD 0) k) ∧ Jx pre W')) := by
  refine callsIn_of_wp Try.func113 rfl hF ?_ hro
  simp only [Try.ntmps113, List.size_toArray, List.length_cons, List.length_nil, Nat.reduceAdd, Nat.reduceSub, Array.replicate_succ, Array.replicate_zero, List.push_toArray, List.append_toArray, List.nil_append, List.cons_append]
  gi_wp2
  gi_loopw [6] (fun i wr => ∃ k : Nat, k ≤ s.size ∧ i = .int .i64 k ∧ J (upto (fun j => (nums s)[j]?.getD 0) k) wr ∧ Below n₀ W wr)
    (fun i _ => s.size - (intOf i).toNat)
  case atStart => exact ⟨0, Nat.zero_le _, rfl, h0, Below.refl _ _⟩
  case round =>
    obtain ⟨k, hk, rfl, hJs, hnx⟩ := hrel
    have hBs' : wr.cell? ⟨Bs, 0, none⟩ = some (.string s) := (hnx.cell (p := ⟨Bs, 0, none⟩) hb).trans hBs
    by_cases hlt : k < s.size
    · have h256 : (s[k].toNat : Int) < 256 := by have := s[k].toNat_lt; omega
      have HN := Lib.hid (nums_at s k hlt)
      obtain ⟨fn, tmps, assign, body, hy, hR⟩ := hY _ ((s[k].toNat : Int) - 97) wr hJs (by rw [upto_length]; exact hlt)
      gi_wp2
      refine hR.mono ?_
      rintro e W3 (⟨rfl, hJ3, hk3⟩ | ⟨rfl, hJx3⟩)
      · gi_wp2
        go_roundw
        case rel => exact ⟨k + 1, by omega, by simp, by rw [upto_succ, HN.out]; exact hJ3, hnx.trans hk3⟩
        case measure => simp [intOf]; omega
      · gi_wp2
        refine bodyPost_ret (results_none rfl _ _ _) rfl ?_
        exact ⟨⟨_, rfl⟩, .inr ⟨_, ⟨k + 1, by omega, rfl⟩, by rw [upto_succ, HN.out]; exact hJx3⟩⟩
    · obtain rfl : k = s.size := by omega
      gi_wp2
      go_end0
      exact ⟨⟨_, rfl⟩, .inl ⟨_, rfl, hJs⟩⟩

/-- **letterCandidates(text) yields the numbers of its letters in order.** -/
theorem letters_stops (F : Fence) (n : Nat) (hF : F.fn 113) (hro : F.round = none) (hn : 1 ≤ n) (Bs : Nat) (s : ByteArray) (hreach : s.size ≤ 1048600) (w0 w : World) (hBs : Bs < w0.heap.size) (hb0 : Below w0.heap.size w0 w)
    (hc : w0.cell? ⟨Bs, 0, none⟩ = some (.string s)) :
    SeqStopsK F n Try.prog 113 #[.pointer (some ⟨Bs, 0, none⟩)] (fun x : Int => #[Value.int .i64 x]) (Below w0.heap.size) (fun ys => ys = nums s) (fun pre => pre <+: nums s) s.size w := fun l J Jx W hW _ _ hY h0 => by
  have hB := hb0.trans (hW.mono hb0.size)
  have hl := nums_length s
  refine (letters1_in F n hF hro hn l Bs w0.heap.size s hreach hBs J Jx hY W ((hB.cell (p := ⟨Bs, 0, none⟩) hBs).trans hc) h0).mono ?_
  rintro e W' ⟨he, ⟨ys, rfl, hj⟩ | ⟨pre, ⟨k, hk, rfl⟩, hj⟩⟩
  · exact ⟨he, .inl ⟨_, by rw [← hl]; exact upto_all _, hj⟩⟩
  · exact ⟨he, .inr ⟨_, by rw [upto_take _ (by omega)]; exact List.take_prefix _ _, hj⟩⟩

set_option maxHeartbeats 1000000 in
theorem letterCandidates_in (F : Fence) (n : Nat) (hF : F.fn 103) (hro : F.round = none) (s : ByteArray) (w : World) :
    CallsIn F n Try.prog 103 #[.string s] w fun e w' => e = .returned (.func (.func 113) #[] #[.pointer (some ⟨w.heap.size, 0, none⟩)]) ∧ w' = w.alloc (.cells #[.string s] 9) := by
  refine callsIn_of_wp Try.func103 rfl hF ?_ hro
  simp only [Try.ntmps103, List.size_toArray, List.length_cons, List.length_nil, Nat.reduceAdd, Nat.reduceSub, Array.replicate_succ, Array.replicate_zero, List.push_toArray, List.append_toArray, List.nil_append, List.cons_append]
  gi_wp2
  go_ret
  exact ⟨rfl, rfl⟩

set_option maxRecDepth 100000 in
set_option maxHeartbeats 2000000 in
/-- **slices.AppendSeq** of nothing and of letterCandidates's value. -/
theorem appendSeq_in (Bs : Nat) (s : ByteArray) (hreach : s.size ≤ 1048600) (w : World) (hBs : Bs < w.heap.size) (hc0 : w.cell? ⟨Bs, 0, none⟩ = some (.string s)) :
    CallsIn Fence.wide 8 Try.prog 112 #[.slice none 0 0, .func (.func 113) #[] #[.pointer (some ⟨Bs, 0, none⟩)]] w fun e w' =>
      ∃ v, e = .returned v ∧ w'.ownsRow w.heap.size 3 1 v s.size ((nums s).map (Value.int .i64)) ∧ Below w.heap.size w w' := by
  have hro : Fence.wide.round = none := rfl
  obtain ⟨i0, hi, hz0, hz1, hz2⟩ := info_parts int_info
  have HC := Lib.hid hc0; clear hc0
  refine callsIn_of_wp_marks Try.func112 rfl trivial ?_ hro
  simp only [Try.ntmps112, List.size_toArray, List.length_cons, List.length_nil, Nat.reduceAdd, Nat.reduceSub, Array.replicate_succ, Array.replicate_zero, List.push_toArray, List.append_toArray, List.nil_append, List.cons_append]
  gi_wp2
  have bO := Boxed.new w 30 (.slice none 0 0)
  have hB0 : Below w.heap.size w (w.alloc (.cells #[.slice none 0 0] 30)) := (Below.refl _ w).alloc (Nat.le_refl _) _
  refine wpIn_rangeFunc_ownG hro (by omega) (gf := 113) (lb := #[.pointer (some ⟨Bs, 0, none⟩)]) rfl trivial (enters_of Try.func113 (by kernel_rfl) rfl)
    (letters_stops Fence.wide 7 trivial hro (by omega) Bs s hreach w _ hBs hB0 HC.out) belowK_t (belowK_b (by simp)) (Below.refl _ _) (fun _ => rfl)
    (fun pre W => (∃ v, Boxed W w.heap.size 30 v ∧ W.ownsRow w.heap.size 3 1 v pre.length (pre.map (Value.int .i64)) ∧ True) ∧ Below w.heap.size w W)
    (fun _ _ _ => False)
    (OwnFrom.and (Own.from (holdsRow_own w.heap.size w.heap.size 30 3 1 (fun (pre : List Int) => pre.length) (fun (pre : List Int) => pre.map (Value.int .i64)) (fun (pre : List Int) v => True)) _) (ownFrom_below (Nat.le_refl _) (by simp)))
    (fun _ _ _ _ _ hs _ _ => hs)
    ⟨⟨_, bO, World.ownsRow_nil _ _ _ _, trivial⟩, hB0⟩
    (fun z => { tmps := #[.slice none 0 0, .func (.func 113) #[] #[.pointer (some ⟨Bs, 0, none⟩)], .pointer (some ⟨w.heap.size, 0, none⟩), undef, .slice none 0 0, .int .i64 z,
      .func (.func 113) #[] #[.pointer (some ⟨Bs, 0, none⟩)], .int .i64 z, undef, undef, undef, undef, undef], defers := [] }) ?assign ?body ?done ?stop
  case assign =>
    intro l z W K hK
    gi_wp2
    exact hK
  case body =>
    rintro l pre z W ⟨⟨v, hv, hrow, _⟩, hB⟩ hlt
    have hc := hv.cell
    gi_wp2_with (gi_at_builtin; refine wpListIn_append_own _ rfl _ _ 30 rfl w.heap.size 3 i0 (.int .i64 0) 1 8 Try.underlying30 hi hz0 hz1 hz2 rfl (by decide) _ _ _ rfl (hrow.alloc _) ⟨W.heap.size, 0, none⟩ 1 1 [.int .i64 z] rfl rfl (cell_one_new _ _ _) (by simp [Value.oneCell']) (by unfold maxLen; omega) (by omega) (by have := hB.size; simp; omega) ?_; intro v' w3 hown' hgrow _; obtain ⟨g', cap', rfl⟩ := ownsRow_succ hown'; obtain ⟨hv1, hv2, hr2, hk2, hb2⟩ := hv.appended (by decide) hrow hB.size (Nat.le_refl _) hown' hgrow; have hc1 := hv1.cell; have hf1 := hv1.frozen)
    exact ⟨hk2.from _, hb2, ⟨_, hv2, by simpa using hr2, trivial⟩, hB.trans hb2⟩
  case done =>
    rintro D ys W hD rfl ⟨⟨v, hv, hrow, _⟩, hB⟩ hK
    have hc := hv.cell
    rw [nums_length] at hrow
    have HRow := Lib.hid hrow; clear hrow
    gi_wp2
    refine ⟨by simp, .inl ⟨_, _, rfl, run_takeDeferred hK, ?_⟩⟩
    exact ⟨_, results_tmp rfl _ _ _, v, rfl, ownsRow_putObj HRow.out _ hK rfl, hB.trans (belowK_b (w := w) (Nat.le_refl _) W D _ _ (by simp at hD; omega) hK rfl rfl)⟩
  case stop =>
    rintro D c pre W _ _ h _
    exact h.elim

set_option maxRecDepth 100000 in
set_option maxHeartbeats 1000000 in
/-- **slices.Collect** of letterCandidates's value. -/
theorem collect_in (Bs : Nat) (s : ByteArray) (hreach : s.size ≤ 1048600) (w : World) (hBs : Bs < w.heap.size) (hc0 : w.cell? ⟨Bs, 0, none⟩ = some (.string s)) :
    Calls Try.prog 102 #[.func (.func 113) #[] #[.pointer (some ⟨Bs, 0, none⟩)]] w fun e w' =>
      ∃ v, e = .returned v ∧ w'.ownsRow w.heap.size 3 1 v s.size ((nums s).map (Value.int .i64)) ∧ Below w.heap.size w w' := by
  have HC := Lib.hid hc0; clear hc0
  go_enter Try.func102, Try.ntmps102
  go_wp2_with fail
  refine (callsIn_wide.1 (appendSeq_in Bs s hreach w hBs HC.out)).mono ?_
  rintro e w1 ⟨v, rfl, ho, hb⟩
  go_wp2
  go_ret
  exact ⟨_, rfl, ho, hb⟩

end Go.Proofs.Ytaaamidkfhabnaa

namespace Go.Proofs.Ytaaamidkfhabnaa
open Go.RowKit Go.Shelf

set_option maxRecDepth 100000 in
set_option maxHeartbeats 1000000 in
/-- **impl.BallotParse** answers as the model does. -/
theorem implParse_any (s : ByteArray) (w : World) (hs : s.size ≤ 1048600) :
    Calls Try.prog 81 #[.string s] w (Parsed w s) := by
  by_cases hlong : 5 < s.size
  · have hok : validB (nums s) 5 = false := by
      cases h : validB (nums s) 5 with
      | false => rfl
      | true => have := validB_short h; rw [nums_length] at this; omega
    have hp : Hid (parseL s = []) := by simp [Hid, parseL, hok]
    have HOK := Lib.hid hok; clear hok
    go_enter Try.func81, Try.ntmps81
    go_wp2
    go_ret2
    refine ⟨none, 0, ?_, ?_, Below.refl _ _⟩
    · rw [hp.out, HOK.out]; rfl
    · rw [hp.out]; exact World.ownsRow_nil _ _ _ _
  · have hsh : s.size ≤ 5 := by omega
    clear hlong
    go_enter Try.func81, Try.ntmps81
    go_wp2_with fail
    refine (callsIn_wide.1 (letterCandidates_in Fence.wide 8 trivial rfl s _)).mono ?_
    rintro e w1 ⟨rfl, rfl⟩
    have bS := Boxed.new w 9 (.string s)
    go_wp2_with fail
    refine (collect_in w.heap.size s hs _ (by simp) bS.cell).mono ?_
    rintro e w2 ⟨v, rfl, ho, hb⟩
    have hB2 : Below w.heap.size w w2 := ((Below.refl _ w).alloc (Nat.le_refl _) _).trans (hb.mono (by simp))
    have ho := ho.mono (base' := w.heap.size) (by simp)
    obtain ⟨a, cap, hv⟩ := owns_slice ho
    rw [hv] at ho ⊢
    clear hv hb bS
    have HI := Lib.hid (IsInts.of_owned ho hs)
    have HO2 := Lib.hid ho; clear ho
    cases hok : validB (nums s) 5
    · have hp : Hid (parseL s = []) := by simp [Hid, parseL, hok]
      go_wp2_with fail
      refine (implValid_any _ _ _ (nums s) _ _ HI.out).mono ?_
      rintro e w4 ⟨rfl, hd⟩
      have hB4 := hB2.trans (hd.mono hB2.size)
      go_wp2
      go_ret2
      refine ⟨none, 0, ?_, ?_, hB4⟩
      · rw [hp.out, hok]; rfl
      · rw [hp.out]; exact World.ownsRow_nil _ _ _ _
    · have hp : Hid (parseL s = nums s) := by simp [Hid, parseL, hok]
      go_wp2_with fail
      refine (implValid_any _ _ _ (nums s) _ _ HI.out).mono ?_
      rintro e w4 ⟨rfl, hd⟩
      have hB4 := hB2.trans (hd.mono hB2.size)
      go_wp2
      go_ret2
      refine ⟨a, cap, ?_, ?_, hB4⟩
      · rw [hp.out, nums_length, hok]; rfl
      · rw [hp.out, nums_length]; exact owns_below HO2.out hd

/-- **impl.BallotParse**, its answer named. -/
theorem implParse_as (s : ByteArray) (pl : List Int) (ok : Bool) (w : World) (hs : s.size ≤ 1048600) (h1 : parseL s = pl) (h2 : validB (nums s) 5 = ok) :
    Calls Try.prog 81 #[.string s] w fun e w' => ∃ a cap, e = .returned (.tuple #[.slice a pl.length cap, .bool ok]) ∧ w'.ownsRow w.heap.size 3 1 (.slice a pl.length cap) pl.length (pl.map (Value.int .i64)) ∧ Below w.heap.size w w' := by
  subst h1; subst h2; exact implParse_any s w hs

end Go.Proofs.Ytaaamidkfhabnaa

namespace Go.Proofs.Ytaaamidkfhabnaa
open Go.RowKit

theorem ret_bool' {a b : Bool} (h : a = b) : Ending.returned (.bool a) = .returned (.bool b) := by rw [h]

set_option maxHeartbeats 1000000 in
/-- **spec.l3Pile**: whether a pile is valid. -/
theorem l3Pile_any (t : ByteArray) (m : Int) (w : World) (hs : t.size ≤ 1048600) :
    Calls Try.prog 106 #[.agg #[.string t, .int .i64 m]] w fun e w' => e = .returned (.bool (pileB t m)) ∧ Below w.heap.size w w' := by
  obtain ⟨pl, hpl⟩ : ∃ pl, parseL t = pl := ⟨_, rfl⟩
  obtain ⟨ok, hok⟩ : ∃ ok, validB (nums t) 5 = ok := ⟨_, rfl⟩
  have HP : Hid (pileB t m = (ok && inB m 1 99)) := by rw [Hid, pileB, hok]
  have HPL := Lib.hid hpl
  have HOK := Lib.hid hok
  clear hpl hok
  go_enter Try.func106, Try.ntmps106
  go_wp2_with fail
  refine (specParse_as t pl ok _ hs HPL.out HOK.out).mono ?_
  rintro e w1 ⟨a, cap, rfl, ho, hb⟩
  have hc : w1.cell? ⟨w.heap.size, 1, none⟩ = some (.int .i64 m) := (hb.cell (p := ⟨w.heap.size, 1, none⟩) (by simp)).trans (World.cell?_alloc_new w _ _ 1)
  have hB : Below w.heap.size w w1 := ((Below.refl _ w).alloc (Nat.le_refl _) _).trans (hb.mono (by simp))
  clear ho
  cases ok
  · go_wp2
    go_ret
    exact ⟨ret_bool HP.out.symm, hB⟩
  · go_wp2_with fail
    refine (l6In_any m 1 99 _).mono ?_
    rintro e w2 ⟨rfl, rfl⟩
    go_wp2
    go_ret
    exact ⟨ret_bool HP.out.symm, hB⟩

set_option maxHeartbeats 1000000 in
/-- **impl's Pile.valid**. -/
theorem pileValid_any (t : ByteArray) (m : Int) (w : World) (hs : t.size ≤ 1048600) :
    Calls Try.prog 89 #[.agg #[.string t, .int .i64 m]] w fun e w' => e = .returned (.bool (pileB t m)) ∧ Below w.heap.size w w' := by
  obtain ⟨pl, hpl⟩ : ∃ pl, parseL t = pl := ⟨_, rfl⟩
  obtain ⟨ok, hok⟩ : ∃ ok, validB (nums t) 5 = ok := ⟨_, rfl⟩
  have HP : Hid (pileB t m = (ok && inB m 1 99)) := by rw [Hid, pileB, hok]
  have HPL := Lib.hid hpl
  have HOK := Lib.hid hok
  clear hpl hok
  go_enter Try.func89, Try.ntmps89
  go_wp2_with fail
  refine (implParse_as t pl ok _ hs HPL.out HOK.out).mono ?_
  rintro e w1 ⟨a, cap, rfl, ho, hb⟩
  have hc : w1.cell? ⟨w.heap.size, 1, none⟩ = some (.int .i64 m) := (hb.cell (p := ⟨w.heap.size, 1, none⟩) (by simp)).trans (World.cell?_alloc_new w _ _ 1)
  have hB : Below w.heap.size w w1 := ((Below.refl _ w).alloc (Nat.le_refl _) _).trans (hb.mono (by simp))
  clear ho
  cases ok
  · go_wp2
    go_ret
    exact ⟨ret_bool HP.out.symm, hB⟩
  · by_cases h1 : 1 ≤ m
    · have d1 : decide ((1 : Int) ≤ m) = true := decide_eq_true h1
      by_cases h2 : m ≤ 99
      · have d2 : decide (m ≤ (99 : Int)) = true := decide_eq_true h2
        have HE : Hid (pileB t m = true) := by rw [Hid, HP.out]; simp [inB, h1, h2]
        go_wp2
        go_ret
        exact ⟨ret_bool HE.out.symm, hB⟩
      · have d2 : decide (m ≤ (99 : Int)) = false := decide_eq_false h2
        have HE : Hid (pileB t m = false) := by rw [Hid, HP.out]; simp [inB, h2]
        go_wp2
        go_ret
        exact ⟨ret_bool HE.out.symm, hB⟩
    · have d1 : decide ((1 : Int) ≤ m) = false := decide_eq_false h1
      have HE : Hid (pileB t m = false) := by rw [Hid, HP.out]; simp [inB, h1]
      go_wp2
      go_ret
      exact ⟨ret_bool HE.out.symm, hB⟩

theorem l3Pile_as (t : ByteArray) (m : Int) (v : Bool) (w : World) (hs : t.size ≤ 1048600) (hv : pileB t m = v) :
    Calls Try.prog 106 #[.agg #[.string t, .int .i64 m]] w fun e w' => e = .returned (.bool v) ∧ Below w.heap.size w w' := by subst hv; exact l3Pile_any t m w hs
theorem pileValid_as (t : ByteArray) (m : Int) (v : Bool) (w : World) (hs : t.size ≤ 1048600) (hv : pileB t m = v) :
    Calls Try.prog 89 #[.agg #[.string t, .int .i64 m]] w fun e w' => e = .returned (.bool v) ∧ Below w.heap.size w w' := by subst hv; exact pileValid_any t m w hs

end Go.Proofs.Ytaaamidkfhabnaa

namespace Go.Proofs.Ytaaamidkfhabnaa
open Go.RowKit

/-- The worlds in which nothing that was in W has turned. -/
def Beh (W : World) : Type := { w : World // Below W.heap.size W w }
def Beh.w {W : World} (u : Beh W) : World := u.1
instance beh_some (W : World) : Nonempty (Beh W) := ⟨⟨W, Below.refl _ _⟩⟩
theorem Beh.below {W : World} (u : Beh W) : Below W.heap.size W u.w := u.2
theorem Beh.cell {W : World} {b o : Nat} {v : Value} (h : W.cell? ⟨b, o, none⟩ = some v) (hb : b < W.heap.size) (u : Beh W) : u.w.cell? ⟨b, o, none⟩ = some v := (u.below.cell (p := ⟨b, o, none⟩) hb).trans h
theorem wp_region_below {P : Program} {id : Nat} {Q : Exit → Act → World → Prop} {a : Act} {w : World} {l : List Oper} (hm : P.follows .mixedOrders = true) (hB : Region.lexB .any l.toArray = true)
    (h : wpQuiet P l.toArray (fun w' => ∃ u : Beh w, w' = u.w) (fun a' => ∀ w', (∃ u : Beh w, w' = u.w) → Q .normal a' w') l a) : (Code.region id l.toArray true).wp P Q a w :=
  wp_region_quiet (C := fun w' => ∃ u : Beh w, w' = u.w) hm hB ⟨⟨w.drew, (Below.refl _ _).drew⟩, rfl⟩ (by simpa using h)
theorem Calls.beh {P : Program} {f : FuncId} {args : Array Value} {W : World} {u : Beh W} {v : Value}
    (h : Calls P f args u.w fun e w' => e = .returned v ∧ Below u.w.heap.size u.w w') : Calls P f args u.w fun e w'' => e = .returned v ∧ ∃ u' : Beh W, w'' = u'.w :=
  h.mono fun _ w' ⟨he, hb⟩ => ⟨he, ⟨w', u.below.trans (hb.mono u.below.size)⟩, rfl⟩
theorem Calls.behDr {P : Program} {f : FuncId} {args : Array Value} {W : World} {u : Beh W} {v : Value}
    (h : Calls P f args u.w fun e w' => e = .returned v ∧ Dr u.w w') : Calls P f args u.w fun e w'' => e = .returned v ∧ ∃ u' : Beh W, w'' = u'.w :=
  Calls.beh (h.mono fun _ _ ⟨he, hd⟩ => ⟨he, hd.below _⟩)
theorem Calls.behSame {P : Program} {f : FuncId} {args : Array Value} {W : World} {u : Beh W} {v : Value}
    (h : Calls P f args u.w fun e w' => e = .returned v ∧ u.w = w') : Calls P f args u.w fun e w'' => e = .returned v ∧ ∃ u' : Beh W, w'' = u'.w :=
  Calls.beh (h.mono fun _ _ ⟨he, hd⟩ => ⟨he, by subst hd; exact Below.refl _ _⟩)

end Go.Proofs.Ytaaamidkfhabnaa

namespace Go.Proofs.Ytaaamidkfhabnaa
open Go.RowKit

/-- All texts are of a size that a machine holds. -/
def Small (ps : List Pl) : Prop := ∀ i, (tAt ps i).size ≤ 1048600
theorem Small.of {ps : List Pl} (h : ∀ p ∈ ps, p.1.size ≤ 1048600) : Small ps := fun i => by
  unfold tAt
  cases e : ps[i]? with
  | none => simp
  | some p => exact h p (List.mem_of_getElem? e)
theorem asc_first {ps : List Pl} {k : Nat} (h : ascTo ps k = true) {v : Bool} (hv : pileB (tAt ps k) (mAt ps k) = v) (h0 : k = 0) : ascTo ps (k + 1) = v := by rw [ascTo_succ, h, hv, h0]; simp
theorem asc_next {ps : List Pl} {j : Nat} (h : ascTo ps (j + 1) = true) {v u : Bool} (hv : pileB (tAt ps (j + 1)) (mAt ps (j + 1)) = v) (hu : tl (tAt ps j) (tAt ps (j + 1)) = u) : ascTo ps (j + 1 + 1) = (v && u) := by rw [ascTo_succ, h, hv]; simp [hu]
theorem pilesB_no {ps : List Pl} {k len : Nat} (h : ascTo ps (k + 1) = false) (hk : k < len) (hl : ps.length = len) : pilesB ps = false := by
  rw [pilesB, ascTo_no h (by rw [hl]; exact hk)]; rfl
theorem pilesB_yes {ps : List Pl} {len : Nat} (h : ascTo ps len = true) (hl : ps.length = len) : pilesB ps = decide ((len : Int) ≤ 12) := by
  rw [pilesB, hl, h]; rfl

set_option maxRecDepth 100000 in
set_option maxHeartbeats 2000000 in
/-- **spec.PilesValid** answers as the model does. -/
theorem specPiles_any (a : Option Addr) (len cap : Nat) (ps : List Pl) (w : World) (h : IsPiles w a len cap ps) (hs : Small ps) :
    Calls Try.prog 86 #[.slice a len cap] w fun e w' => e = .returned (.bool (pilesB ps)) ∧ Below w.heap.size w w' := by
  obtain ⟨h1, h2, h3, h4⟩ := h
  have H1 := Lib.hid h1; clear h1
  have H4 := Lib.hid h4; clear h4
  have HS := Lib.hid hs; clear hs
  obtain ⟨g, hg⟩ : ∃ g, w.heap.size = g := ⟨_, rfl⟩
  go_enter Try.func86, Try.ntmps86
  go_wp2
  go_loopw [3] (fun i wr => ∃ k : Nat, k ≤ len ∧ i = .int .i64 k ∧ Hid (ascTo ps k = true) ∧ Below g w wr) (fun i _ => len - (intOf i).toNat)
  case atStart => exact ⟨0, Nat.zero_le _, rfl, rfl, Below.refl _ _⟩
  case round =>
    obtain ⟨k, hk, rfl, hA, hB⟩ := hrel
    by_cases hlt : k < len
    · obtain ⟨b, off, rfl, hb, hcell⟩ := H4.out (by omega)
      obtain ⟨t, ht⟩ : ∃ t, tAt ps k = t := ⟨_, rfl⟩
      obtain ⟨m, hm⟩ : ∃ m, mAt ps k = m := ⟨_, rfl⟩
      obtain ⟨v, hv⟩ : ∃ v, pileB t m = v := ⟨_, rfl⟩
      have hst : t.size ≤ 1048600 := by rw [← ht]; exact HS.out k
      have hbg : b < g := by rw [← hg]; exact hb
      have c0 : wr.cell? ⟨b, off + k * 2, none⟩ = some (.string t) := by rw [hB.cell (p := ⟨b, off + k * 2, none⟩) hbg, (hcell k hlt).1, ht]
      have c1 : wr.cell? ⟨b, off + k * 2 + 1, none⟩ = some (.int .i64 m) := by rw [hB.cell (p := ⟨b, off + k * 2 + 1, none⟩) hbg, (hcell k hlt).2, hm]
      have hbr : b < wr.heap.size := Nat.lt_of_lt_of_le (hg.symm ▸ hbg) hB.size
      have u0 : ∀ u : Beh wr, u.w.cell? ⟨b, off + k * 2, none⟩ = some (.string t) := Beh.cell c0 hbr
      have u1 : ∀ u : Beh wr, u.w.cell? ⟨b, off + k * 2 + 1, none⟩ = some (.int .i64 m) := Beh.cell c1 hbr
      rcases Nat.eq_zero_or_pos k with hk0 | hk0
      · have hgt : decide ((0 : Int) < (k : Int)) = false := decide_eq_false (by omega)
        have hgt' : decide (0 < k) = false := decide_eq_false (by omega)
        have HN := Lib.hid (asc_first hA.out (by rw [ht, hm, hv]) hk0)
        have HV := Lib.hid hv
        have HCELL := Lib.hid hcell
        clear ht hm hv hcell hk0
        cases v
        · go_wp2_with fail
          refine wp_region_below (by kernel_rfl) (by kernel_rfl) ?_
          repeat (go_big_quiet_step ((go_at_call 106; exact Calls.beh (l3Pile_as t m false _ hst HV.out))))
          refine wpQuiet_nil ?_
          rintro _ ⟨⟨w1, hb1⟩, rfl⟩
          have hB1 := hB.trans (hb1.mono (hg.symm ▸ hB.size))
          go_wp2
          go_ret
          exact ⟨ret_bool (pilesB_no HN.out hlt H1.out).symm, hg.symm ▸ hB1⟩
        · go_wp2_with fail
          refine wp_region_below (by kernel_rfl) (by kernel_rfl) ?_
          repeat (go_big_quiet_step ((go_at_call 106; exact Calls.beh (l3Pile_as t m true _ hst HV.out))))
          refine wpQuiet_nil ?_
          rintro _ ⟨⟨w1, hb1⟩, rfl⟩
          have hB1 := hB.trans (hb1.mono (hg.symm ▸ hB.size))
          go_wp2
          go_roundw
          case rel => exact ⟨k + 1, by omega, by go_num, HN, hB1⟩
          case measure => simp [intOf]; omega
      · obtain ⟨j, rfl⟩ : ∃ j, k = j + 1 := ⟨k - 1, by omega⟩
        obtain ⟨t', ht'⟩ : ∃ t', tAt ps j = t' := ⟨_, rfl⟩
        obtain ⟨u, hu⟩ : ∃ u, tl t' t = u := ⟨_, rfl⟩
        have c2 : wr.cell? ⟨b, off + j * 2, none⟩ = some (.string t') := by rw [hB.cell (p := ⟨b, off + j * 2, none⟩) hbg, (hcell j (by omega)).1, ht']
        have u2 : ∀ u : Beh wr, u.w.cell? ⟨b, off + j * 2, none⟩ = some (.string t') := Beh.cell c2 hbr
        have hgt : decide ((0 : Int) < (j : Int) + 1) = true := decide_eq_true (by omega)
        have hgt' : decide (0 < j + 1) = true := decide_eq_true (by omega)
        have hji : (j : Int) < (len : Int) := by omega
        have HN := Lib.hid (asc_next hA.out (by rw [ht, hm, hv]) (by rw [ht', ht, hu]))
        have HV := Lib.hid hv
        have HU := Lib.hid hu
        have HCELL := Lib.hid hcell
        clear ht ht' hm hv hu hcell
        cases v
        · go_wp2_with fail
          refine wp_region_below (by kernel_rfl) (by kernel_rfl) ?_
          repeat (go_big_quiet_step ((go_at_call 106; exact Calls.beh (l3Pile_as t m false _ hst HV.out))))
          refine wpQuiet_nil ?_
          rintro _ ⟨⟨w1, hb1⟩, rfl⟩
          have hB1 := hB.trans (hb1.mono (hg.symm ▸ hB.size))
          go_wp2
          go_ret
          exact ⟨ret_bool (pilesB_no HN.out hlt H1.out).symm, hg.symm ▸ hB1⟩
        · go_wp2_with fail
          refine wp_region_below (by kernel_rfl) (by kernel_rfl) ?_
          repeat (go_big_quiet_step ((go_at_call 106; exact Calls.beh (l3Pile_as t m true _ hst HV.out))))
          refine wpQuiet_nil ?_
          rintro _ ⟨⟨w1, hb1⟩, rfl⟩
          have hB1 := hB.trans (hb1.mono (hg.symm ▸ hB.size))
          have hbl : Op.bytesLess t'.toList t.toList = u := HU.out
          cases u
          · simp only [hbl, Bool.not_false]
            go_wp2
            go_ret
            exact ⟨ret_bool (pilesB_no HN.out hlt H1.out).symm, hg.symm ▸ hB1⟩
          · simp only [hbl, Bool.not_true]
            go_wp2
            go_roundw
            case rel => exact ⟨j + 1 + 1, by omega, by go_num, HN, hB1⟩
            case measure => simp [intOf]; omega
    · obtain rfl : k = len := by omega
      go_wp2
      go_ret
      exact ⟨ret_bool (pilesB_yes hA.out H1.out).symm, hg.symm ▸ hB⟩

end Go.Proofs.Ytaaamidkfhabnaa
