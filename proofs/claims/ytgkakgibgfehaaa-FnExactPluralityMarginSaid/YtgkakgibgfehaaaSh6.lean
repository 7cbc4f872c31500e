/-
  spec.BallotParse and impl.BallotParse answer alike: for every text of at most 1048576 bytes; what they return is memory of their own.
  spec.l3Pile and impl's Pile.valid answer alike: for every pile with a text of at most 1048576 bytes; neither writes into memory that was there.
  A region that draws its order, whose operations only read what was there and whose callees write nothing that was there: one walk, in the order of the text. No function of the seat.
  spec.PilesValid: for every slice of piles with texts of at most 1048600 bytes; it writes into no memory that was there.
  The reader that the drawn statements use (l6Open, pick): what it does to memory, and in which range its numbers are.
  The reader of drawn inputs: what is kept while it goes on (Step), and l6Open: a new reader. No condition but what each theorem says.
  Step laws: append to a slice of the call's own, in a region that draws its order. No condition but what each theorem says.
-/
import Derived.Test.YtgkakgibgfehaaaSh5
import Derived.Deep.Onto
import Derived.Test.YtgkakgibgfehaaaSh3
import Derived.BigQuiet
import Derived.Laws.IdiomStrings
import Derived.Deep.RegionLaw
import Derived.Deep.AppendLies
import Derived.Deep.RegionWith
namespace Go.Proofs.Ytgkakgibgfehaaa
open Go.RowKit Go.Shelf

set_option maxRecDepth 100000 in
set_option maxHeartbeats 1000000 in
/-- **impl.BallotParse** answers as the model does. -/
theorem implParse_any (s : ByteArray) (w : World) (hs : s.size ≤ 1048600) :
    Calls Tq.prog 81 #[.string s] w (Parsed w s) := by
  by_cases hlong : 5 < s.size
  · have hok : validB (nums s) 5 = false := by
      cases h : validB (nums s) 5 with
      | false => rfl
      | true => have := validB_short h; rw [nums_length] at this; omega
    have hp : Hid (parseL s = []) := by simp [Hid, parseL, hok]
    have HOK := Lib.hid hok; clear hok
    go_enter Tq.func81, Tq.ntmps81
    go_wp2
    go_ret2
    refine ⟨none, 0, ?_, ?_, Below.refl _ _⟩
    · rw [hp.out, HOK.out]; rfl
    · rw [hp.out]; exact World.ownsRow_nil _ _ _ _
  · have hsh : s.size ≤ 5 := by omega
    clear hlong
    go_enter Tq.func81, Tq.ntmps81
    go_wp2_with fail
    refine (callsIn_wide.1 (letterCandidates_in Fence.wide 8 trivial rfl s _)).mono ?_
    rintro e w1 ⟨rfl, rfl⟩
    have bS := Boxed.new w 9 (.string s)
    go_wp2_with fail
    refine (collect_in w.heap.size s hs _ (by simp) bS.cell).mono ?_
    rintro e w2 ⟨v, rfl, ho, hb⟩
    have hB2 : Below w.heap.size w w2 := ((Below.refl _ w).alloc (Nat.le_refl _) _).trans (hb.mono (by simp))
    have ho := ho.mono (base' := w.heap.size) (by simp)
    obtain ⟨a, cap, hv⟩ := owns_slice ho
    rw [hv] at ho ⊢
    clear hv hb bS
    have HI := Lib.hid (IsInts.of_owned ho hs)
    have HO2 := Lib.hid ho; clear ho
    cases hok : validB (nums s) 5
    · have hp : Hid (parseL s = []) := by simp [Hid, parseL, hok]
      go_wp2_with fail
      refine (implValid_any _ _ _ (nums s) _ _ HI.out).mono ?_
      rintro e w4 ⟨rfl, hd⟩
      have hB4 := hB2.trans (hd.mono hB2.size)
      go_wp2
      go_ret2
      refine ⟨none, 0, ?_, ?_, hB4⟩
      · rw [hp.out, hok]; rfl
      · rw [hp.out]; exact World.ownsRow_nil _ _ _ _
    · have hp : Hid (parseL s = nums s) := by simp [Hid, parseL, hok]
      go_wp2_with fail
      refine (implValid_any _ _ _ (nums s) _ _ HI.out).mono ?_
      rintro e w4 ⟨rfl, hd⟩
      have hB4 := hB2.trans (hd.mono hB2.size)
      go_wp2
      go_ret2
      refine ⟨a, cap, ?_, ?_, hB4⟩
      · rw [hp.out, nums_length, hok]; rfl
      · rw [hp.out, nums_length]; exact owns_below HO2.out hd

/-- **impl.BallotParse**, its answer named. -/
theorem implParse_as (s : ByteArray) (pl : List Int) (ok : Bool) (w : World) (hs : s.size ≤ 1048600) (h1 : parseL s = pl) (h2 : validB (nums s) 5 = ok) :
    Calls Tq.prog 81 #[.string s] w fun e w' => ∃ a cap, e = .returned (.tuple #[.slice a pl.length cap, .bool ok]) ∧ w'.ownsRow w.heap.size 3 1 (.slice a pl.length cap) pl.length (pl.map (Value.int .i64)) ∧ Below w.heap.size w w' := by
  subst h1; subst h2; exact implParse_any s w hs

end Go.Proofs.Ytgkakgibgfehaaa

namespace Go.Proofs.Ytgkakgibgfehaaa
open Go.RowKit

set_option maxHeartbeats 1000000 in
/-- **spec.l3Pile**: whether a pile is valid. -/
theorem l3Pile_any (t : ByteArray) (m : Int) (w : World) (hs : t.size ≤ 1048600) :
    Calls Tq.prog 99 #[.agg #[.string t, .int .i64 m]] w fun e w' => e = .returned (.bool (pileB t m)) ∧ Below w.heap.size w w' := by
  obtain ⟨pl, hpl⟩ : ∃ pl, parseL t = pl := ⟨_, rfl⟩
  obtain ⟨ok, hok⟩ : ∃ ok, validB (nums t) 5 = ok := ⟨_, rfl⟩
  have HP : Hid (pileB t m = (ok && inB m 1 99)) := by rw [Hid, pileB, hok]
  have HPL := Lib.hid hpl
  have HOK := Lib.hid hok
  clear hpl hok
  go_enter Tq.func99, Tq.ntmps99
  go_wp2_with fail
  refine (specParse_as t pl ok _ hs HPL.out HOK.out).mono ?_
  rintro e w1 ⟨a, cap, rfl, ho, hb⟩
  have hc : w1.cell? ⟨w.heap.size, 1, none⟩ = some (.int .i64 m) := (hb.cell (p := ⟨w.heap.size, 1, none⟩) (by simp)).trans (World.cell?_alloc_new w _ _ 1)
  have hB : Below w.heap.size w w1 := ((Below.refl _ w).alloc (Nat.le_refl _) _).trans (hb.mono (by simp))
  clear ho
  cases ok
  · go_wp2
    go_ret
    exact ⟨ret_bool HP.out.symm, hB⟩
  · go_wp2_with fail
    refine (l6In_any m 1 99 _).mono ?_
    rintro e w2 ⟨rfl, rfl⟩
    go_wp2
    go_ret
    exact ⟨ret_bool HP.out.symm, hB⟩

set_option maxHeartbeats 1000000 in
/-- **impl's Pile.valid**. -/
theorem pileValid_any (t : ByteArray) (m : Int) (w : World) (hs : t.size ≤ 1048600) :
    Calls Tq.prog 93 #[.agg #[.string t, .int .i64 m]] w fun e w' => e = .returned (.bool (pileB t m)) ∧ Below w.heap.size w w' := by
  obtain ⟨pl, hpl⟩ : ∃ pl, parseL t = pl := ⟨_, rfl⟩
  obtain ⟨ok, hok⟩ : ∃ ok, validB (nums t) 5 = ok := ⟨_, rfl⟩
  have HP : Hid (pileB t m = (ok && inB m 1 99)) := by rw [Hid, pileB, hok]
  have HPL := Lib.hid hpl
  have HOK := Lib.hid hok
  clear hpl hok
  go_enter Tq.func93, Tq.ntmps93
  go_wp2_with fail
  refine (implParse_as t pl ok _ hs HPL.out HOK.out).mono ?_
  rintro e w1 ⟨a, cap, rfl, ho, hb⟩
  have hc : w1.cell? ⟨w.heap.size, 1, none⟩ = some (.int .i64 m) := (hb.cell (p := ⟨w.heap.size, 1, none⟩) (by simp)).trans (World.cell?_alloc_new w _ _ 1)
  have hB : Below w.heap.size w w1 := ((Below.refl _ w).alloc (Nat.le_refl _) _).trans (hb.mono (by simp))
  clear ho
  cases ok
  · go_wp2
    go_ret
    exact ⟨ret_bool HP.out.symm, hB⟩
  · by_cases h1 : 1 ≤ m
    · have d1 : decide ((1 : Int) ≤ m) = true := decide_eq_true h1
      by_cases h2 : m ≤ 99
      · have d2 : decide (m ≤ (99 : Int)) = true := decide_eq_true h2
        have HE : Hid (pileB t m = true) := by rw [Hid, HP.out]; simp [inB, h1, h2]
        go_wp2
        go_ret
        exact ⟨ret_bool HE.out.symm, hB⟩
      · have d2 : decide (m ≤ (99 : Int)) = false := decide_eq_false h2
        have HE : Hid (pileB t m = false) := by rw [Hid, HP.out]; simp [inB, h2]
        go_wp2
        go_ret
        exact ⟨ret_bool HE.out.symm, hB⟩
    · have d1 : decide ((1 : Int) ≤ m) = false := decide_eq_false h1
      have HE : Hid (pileB t m = false) := by rw [Hid, HP.out]; simp [inB, h1]
      go_wp2
      go_ret
      exact ⟨ret_bool HE.out.symm, hB⟩

theorem l3Pile_as (t : ByteArray) (m : Int) (v : Bool) (w : World) (hs : t.size ≤ 1048600) (hv : pileB t m = v) :
    Calls Tq.prog 99 #[.agg #[.string t, .int .i64 m]] w fun e w' => e = .returned (.bool v) ∧ Below w.heap.size w w' := by subst hv; exact l3Pile_any t m w hs
theorem pileValid_as (t : ByteArray) (m : Int) (v : Bool) (w : World) (hs : t.size ≤ 1048600) (hv : pileB t m = v) :
    Calls Tq.prog 93 #[.agg #[.string t, .int .i64 m]] w fun e w' => e = .returned (.bool v) ∧ Below w.heap.size w w' := by subst hv; exact pileValid_any t m w hs

end Go.Proofs.Ytgkakgibgfehaaa

namespace Go.Proofs.Ytgkakgibgfehaaa
open Go.RowKit

/-- The worlds in which nothing that was in W has turned. -/
def Beh (W : World) : Type := { w : World // Below W.heap.size W w }
def Beh.w {W : World} (u : Beh W) : World := u.1
instance beh_some (W : World) : Nonempty (Beh W) := ⟨⟨W, Below.refl _ _⟩⟩
theorem Beh.below {W : World} (u : Beh W) : Below W.heap.size W u.w := u.2
theorem Beh.cell {W : World} {b o : Nat} {v : Value} (h : W.cell? ⟨b, o, none⟩ = some v) (hb : b < W.heap.size) (u : Beh W) : u.w.cell? ⟨b, o, none⟩ = some v := (u.below.cell (p := ⟨b, o, none⟩) hb).trans h
theorem wp_region_below {P : Program} {id : Nat} {Q : Exit → Act → World → Prop} {a : Act} {w : World} {l : List Oper} (hm : P.follows .mixedOrders = true) (hB : Region.lexB .any l.toArray = true)
    (h : wpQuiet P l.toArray (fun w' => ∃ u : Beh w, w' = u.w) (fun a' => ∀ w', (∃ u : Beh w, w' = u.w) → Q .normal a' w') l a) : (Code.region id l.toArray true).wp P Q a w :=
  wp_region_quiet (C := fun w' => ∃ u : Beh w, w' = u.w) hm hB ⟨⟨w.drew, (Below.refl _ _).drew⟩, rfl⟩ (by simpa using h)
theorem Calls.beh {P : Program} {f : FuncId} {args : Array Value} {W : World} {u : Beh W} {v : Value}
    (h : Calls P f args u.w fun e w' => e = .returned v ∧ Below u.w.heap.size u.w w') : Calls P f args u.w fun e w'' => e = .returned v ∧ ∃ u' : Beh W, w'' = u'.w :=
  h.mono fun _ w' ⟨he, hb⟩ => ⟨he, ⟨w', u.below.trans (hb.mono u.below.size)⟩, rfl⟩
end Go.Proofs.Ytgkakgibgfehaaa

namespace Go.Proofs.Ytgkakgibgfehaaa
open Go.RowKit

/-- All texts are of a size that a machine holds. -/
def Small (ps : List Pl) : Prop := ∀ i, (tAt ps i).size ≤ 1048600
theorem Small.of {ps : List Pl} (h : ∀ p ∈ ps, p.1.size ≤ 1048600) : Small ps := fun i => by
  unfold tAt
  cases e : ps[i]? with
  | none => simp
  | some p => exact h p (List.mem_of_getElem? e)
theorem asc_first {ps : List Pl} {k : Nat} (h : ascTo ps k = true) {v : Bool} (hv : pileB (tAt ps k) (mAt ps k) = v) (h0 : k = 0) : ascTo ps (k + 1) = v := by rw [ascTo_succ, h, hv, h0]; simp
theorem asc_next {ps : List Pl} {j : Nat} (h : ascTo ps (j + 1) = true) {v u : Bool} (hv : pileB (tAt ps (j + 1)) (mAt ps (j + 1)) = v) (hu : tl (tAt ps j) (tAt ps (j + 1)) = u) : ascTo ps (j + 1 + 1) = (v && u) := by rw [ascTo_succ, h, hv]; simp [hu]
theorem pilesB_no {ps : List Pl} {k len : Nat} (h : ascTo ps (k + 1) = false) (hk : k < len) (hl : ps.length = len) : pilesB ps = false := by
  rw [pilesB, ascTo_no h (by rw [hl]; exact hk)]; rfl
theorem pilesB_yes {ps : List Pl} {len : Nat} (h : ascTo ps len = true) (hl : ps.length = len) : pilesB ps = decide ((len : Int) ≤ 12) := by
  rw [pilesB, hl, h]; rfl

set_option maxRecDepth 100000 in
set_option maxHeartbeats 2000000 in
/-- **spec.PilesValid** answers as the model does. -/
theorem specPiles_any (a : Option Addr) (len cap : Nat) (ps : List Pl) (w : World) (h : IsPiles w a len cap ps) (hs : Small ps) :
    Calls Tq.prog 91 #[.slice a len cap] w fun e w' => e = .returned (.bool (pilesB ps)) ∧ Below w.heap.size w w' := by
  obtain ⟨h1, h2, h3, h4⟩ := h
  have H1 := Lib.hid h1; clear h1
  have H4 := Lib.hid h4; clear h4
  have HS := Lib.hid hs; clear hs
  obtain ⟨g, hg⟩ : ∃ g, w.heap.size = g := ⟨_, rfl⟩
  go_enter Tq.func91, Tq.ntmps91
  go_wp2
  go_loopw [3] (fun i wr => ∃ k : Nat, k ≤ len ∧ i = .int .i64 k ∧ Hid (ascTo ps k = true) ∧ Below g w wr) (fun i _ => len - (intOf i).toNat)
  case atStart => exact ⟨0, Nat.zero_le _, rfl, rfl, Below.refl _ _⟩
  case round =>
    obtain ⟨k, hk, rfl, hA, hB⟩ := hrel
    by_cases hlt : k < len
    · obtain ⟨b, off, rfl, hb, hcell⟩ := H4.out (by omega)
      obtain ⟨t, ht⟩ : ∃ t, tAt ps k = t := ⟨_, rfl⟩
      obtain ⟨m, hm⟩ : ∃ m, mAt ps k = m := ⟨_, rfl⟩
      obtain ⟨v, hv⟩ : ∃ v, pileB t m = v := ⟨_, rfl⟩
      have hst : t.size ≤ 1048600 := by rw [← ht]; exact HS.out k
      have hbg : b < g := by rw [← hg]; exact hb
      have c0 : wr.cell? ⟨b, off + k * 2, none⟩ = some (.string t) := by rw [hB.cell (p := ⟨b, off + k * 2, none⟩) hbg, (hcell k hlt).1, ht]
      have c1 : wr.cell? ⟨b, off + k * 2 + 1, none⟩ = some (.int .i64 m) := by rw [hB.cell (p := ⟨b, off + k * 2 + 1, none⟩) hbg, (hcell k hlt).2, hm]
      have hbr : b < wr.heap.size := Nat.lt_of_lt_of_le (hg.symm ▸ hbg) hB.size
      have u0 : ∀ u : Beh wr, u.w.cell? ⟨b, off + k * 2, none⟩ = some (.string t) := Beh.cell c0 hbr
      have u1 : ∀ u : Beh wr, u.w.cell? ⟨b, off + k * 2 + 1, none⟩ = some (.int .i64 m) := Beh.cell c1 hbr
      rcases Nat.eq_zero_or_pos k with hk0 | hk0
      · have hgt : decide ((0 : Int) < (k : Int)) = false := decide_eq_false (by omega)
        have hgt' : decide (0 < k) = false := decide_eq_false (by omega)
        have HN := Lib.hid (asc_first hA.out (by rw [ht, hm, hv]) hk0)
        have HV := Lib.hid hv
        have HCELL := Lib.hid hcell
        clear ht hm hv hcell hk0
        cases v
        · go_wp2_with fail
          refine wp_region_below (by kernel_rfl) (by kernel_rfl) ?_
          repeat (go_big_quiet_step ((go_at_call 99; exact Calls.beh (l3Pile_as t m false _ hst HV.out))))
          refine wpQuiet_nil ?_
          rintro _ ⟨⟨w1, hb1⟩, rfl⟩
          have hB1 := hB.trans (hb1.mono (hg.symm ▸ hB.size))
          go_wp2
          go_ret
          exact ⟨ret_bool (pilesB_no HN.out hlt H1.out).symm, hg.symm ▸ hB1⟩
        · go_wp2_with fail
          refine wp_region_below (by kernel_rfl) (by kernel_rfl) ?_
          repeat (go_big_quiet_step ((go_at_call 99; exact Calls.beh (l3Pile_as t m true _ hst HV.out))))
          refine wpQuiet_nil ?_
          rintro _ ⟨⟨w1, hb1⟩, rfl⟩
          have hB1 := hB.trans (hb1.mono (hg.symm ▸ hB.size))
          go_wp2
          go_roundw
          case rel => exact ⟨k + 1, by omega, by go_num, HN, hB1⟩
          case measure => simp [intOf]; omega
      · obtain ⟨j, rfl⟩ : ∃ j, k = j + 1 := ⟨k - 1, by omega⟩
        obtain ⟨t', ht'⟩ : ∃ t', tAt ps j = t' := ⟨_, rfl⟩
        obtain ⟨u, hu⟩ : ∃ u, tl t' t = u := ⟨_, rfl⟩
        have c2 : wr.cell? ⟨b, off + j * 2, none⟩ = some (.string t') := by rw [hB.cell (p := ⟨b, off + j * 2, none⟩) hbg, (hcell j (by omega)).1, ht']
        have u2 : ∀ u : Beh wr, u.w.cell? ⟨b, off + j * 2, none⟩ = some (.string t') := Beh.cell c2 hbr
        have hgt : decide ((0 : Int) < (j : Int) + 1) = true := decide_eq_true (by omega)
        have hgt' : decide (0 < j + 1) = true := decide_eq_true (by omega)
        have hji : (j : Int) < (len : Int) := by omega
        have HN := Lib.hid (asc_next hA.out (by rw [ht, hm, hv]) (by rw [ht', ht, hu]))
        have HV := Lib.hid hv
        have HU := Lib.hid hu
        have HCELL := Lib.hid hcell
        clear ht ht' hm hv hu hcell
        cases v
        · go_wp2_with fail
          refine wp_region_below (by kernel_rfl) (by kernel_rfl) ?_
          repeat (go_big_quiet_step ((go_at_call 99; exact Calls.beh (l3Pile_as t m false _ hst HV.out))))
          refine wpQuiet_nil ?_
          rintro _ ⟨⟨w1, hb1⟩, rfl⟩
          have hB1 := hB.trans (hb1.mono (hg.symm ▸ hB.size))
          go_wp2
          go_ret
          exact ⟨ret_bool (pilesB_no HN.out hlt H1.out).symm, hg.symm ▸ hB1⟩
        · go_wp2_with fail
          refine wp_region_below (by kernel_rfl) (by kernel_rfl) ?_
          repeat (go_big_quiet_step ((go_at_call 99; exact Calls.beh (l3Pile_as t m true _ hst HV.out))))
          refine wpQuiet_nil ?_
          rintro _ ⟨⟨w1, hb1⟩, rfl⟩
          have hB1 := hB.trans (hb1.mono (hg.symm ▸ hB.size))
          have hbl : Op.bytesLess t'.toList t.toList = u := HU.out
          cases u
          · simp only [hbl, Bool.not_false]
            go_wp2
            go_ret
            exact ⟨ret_bool (pilesB_no HN.out hlt H1.out).symm, hg.symm ▸ hB1⟩
          · simp only [hbl, Bool.not_true]
            go_wp2
            go_roundw
            case rel => exact ⟨j + 1 + 1, by omega, by go_num, HN, hB1⟩
            case measure => simp [intOf]; omega
    · obtain rfl : k = len := by omega
      go_wp2
      go_ret
      exact ⟨ret_bool (pilesB_yes hA.out H1.out).symm, hg.symm ▸ hB⟩

end Go.Proofs.Ytgkakgibgfehaaa

namespace Go.Proofs.Ytgkakgibgfehaaa
open Go.RowKit

/-- Block R is a reader that stands at place p. -/
def Rd (w : World) (R p : Nat) : Prop := R < w.heap.size ∧ p ≤ 1000000 ∧ w.cell? ⟨R, 1, none⟩ = some (.int .i64 (p : Int)) ∧ w.frozen? ⟨R, 1, none⟩ = false ∧
  ∃ (a : Option Addr) (len cap : Nat) (bs : List Int), w.cell? ⟨R, 0, none⟩ = some (.slice a len cap) ∧ len ≤ 2000 ∧ bs.length = len ∧ (∀ z ∈ bs, 0 ≤ z ∧ z ≤ 255) ∧
    (0 < len → ∃ b off, a = some ⟨b, off, none⟩ ∧ b < R ∧ ∀ j, j < len → w.cell? ⟨b, off + j, none⟩ = some (.int .u8 (bs[j]?.getD 0)))

theorem Rd.below {w w' : World} {R p : Nat} (h : Rd w R p) (hb : Below w.heap.size w w') : Rd w' R p := by
  obtain ⟨h1, h2, h3, h4, a, len, cap, bs, h5, h6, h7, h8, h9⟩ := h
  refine ⟨Nat.lt_of_lt_of_le h1 hb.size, h2, (hb.cell (p := ⟨R, 1, none⟩) h1).trans h3, (hb.frozen (p := ⟨R, 1, none⟩) h1).trans h4, a, len, cap, bs, (hb.cell (p := ⟨R, 0, none⟩) h1).trans h5, h6, h7, h8, fun hl => ?_⟩
  obtain ⟨b, off, e, hbR, hc⟩ := h9 hl
  exact ⟨b, off, e, hbR, fun j hj => (hb.cell (p := ⟨b, off + j, none⟩) (Nat.lt_trans hbR h1)).trans (hc j hj)⟩

/-- A step of the reader: its place alone is written. -/
def Step (R : Nat) (w w' : World) : Prop := w.grownBy w' (some R)
theorem Step.of_set {w : World} {R : Nat} {v : Value} (q : Nat) : Step R w ((w.setCell ⟨R, 1, none⟩ v).drewN q) :=
  ⟨rfl, rfl, rfl, by simp [World.setCell], fun k _ hk => Below.heap_setCell _ _ _ _ (fun e => hk (by rw [e]))⟩
theorem Step.below {R : Nat} {w w' : World} (h : Step R w w') {B : Nat} (hR : B ≤ R) (hB : B ≤ w.heap.size) : Below B w w' := (Below.refl B w).grown h hB (fun k e => by cases e; exact hR)

theorem Rd.stepped {w : World} {R p : Nat} (h : Rd w R p) (q : Nat) (hp : p + 1 ≤ 1000000) : Rd ((w.setCell ⟨R, 1, none⟩ (.int .i64 ((p : Int) + 1))).drewN q) R (p + 1) := by
  obtain ⟨h1, h2, h3, h4, a, len, cap, bs, h5, h6, h7, h8, h9⟩ := h
  refine ⟨by simpa [World.setCell] using h1, hp, ?_, ?_, a, len, cap, bs, ?_, h6, h7, h8, fun hl => ?_⟩
  · rw [World.cell?_drewN, World.cell?_setCell_same' _ _ _ (by rw [h3]; rfl)]; rfl
  · rw [World.frozen?_drewN, World.frozen?_setCell]; exact h4
  · rw [World.cell?_drewN, World.cell?_setCell_other _ _ _ _ (by intro e; injection e with _ e2; exact absurd e2 (by decide))]; exact h5
  · obtain ⟨b, off, e, hbR, hc⟩ := h9 hl
    refine ⟨b, off, e, hbR, fun j hj => ?_⟩
    rw [World.cell?_drewN, World.cell?_setCell_other _ _ _ _ (by intro e'; injection e' with e1; omega)]
    exact hc j hj

theorem bits_xor_i64 (a b : Nat) (ha : a < 4611686018427387904) (hb : b < 4611686018427387904) : bits .xor .i64 (a : Int) (b : Int) = ((a ^^^ b : Nat) : Int) := by
  have hx : a ^^^ b < 2 ^ 62 := Nat.xor_lt_two_pow (by omega) (by omega)
  unfold bits
  show IntKind.i64.wrap (((BitVec.ofInt 64 (a : Int)) ^^^ (BitVec.ofInt 64 (b : Int))).toNat : Int) = _
  rw [BitVec.toNat_xor, ofInt_u64 a (by omega), ofInt_u64 b (by omega)]
  exact IntWalk.i64_in _ (by omega)
theorem pick_range (E n : Int) (h0 : 0 ≤ E) (h1 : E < 4611686018427387904) (hn : 1 ≤ n) : 0 ≤ (bits .xor .i64 E (E / 64)).tmod n ∧ (bits .xor .i64 E (E / 64)).tmod n < n := by
  obtain ⟨x, rfl⟩ := Int.eq_ofNat_of_zero_le h0
  have e : ((x : Int) / 64) = ((x / 64 : Nat) : Int) := by omega
  rw [e, bits_xor_i64 x (x / 64) (by omega) (by omega)]
  exact ⟨Int.tmod_nonneg _ (by omega), Int.tmod_lt_of_pos _ (by omega)⟩

/-- What a pick does. -/
def Picked (R p : Nat) (n : Int) (w : World) (e : Ending) (w' : World) : Prop := ∃ r : Nat, e = .returned (.int .i64 (r : Int)) ∧ (r : Int) < n ∧ Rd w' R (p + 1) ∧ Step R w w'

theorem picked_of {R p : Nat} {n r : Int} {w : World} (q : Nat) (h : Rd w R p) (hp : p + 1 ≤ 1000000) (h0 : 0 ≤ r) (h1 : r < n) : Picked R p n w (.returned (.int .i64 r)) ((w.setCell ⟨R, 1, none⟩ (.int .i64 ((p : Int) + 1))).drewN q) := by
  obtain ⟨x, rfl⟩ := Int.eq_ofNat_of_zero_le h0
  exact ⟨x, rfl, h1, h.stepped q hp, Step.of_set q⟩

set_option maxHeartbeats 1000000 in
/-- **pick**: a number from 0 to n-1. -/
theorem pick_any (R p : Nat) (n : Int) (w : World) (h : Rd w R p) (hp : p + 1 ≤ 1000000) (hn : 1 ≤ n) (hn' : n ≤ 1000000000) :
    Calls Tq.prog 48 #[.pointer (some ⟨R, 0, none⟩), .int .i64 n] w (Picked R p n w) := by
  have H := Lib.hid h
  obtain ⟨h1, h2, h3, h4, a, len, cap, bs, h5, h6, h7, h8, h9⟩ := h
  have H7 := Lib.hid h7; clear h7
  have H8 := Lib.hid h8; clear h8
  have H9 := Lib.hid h9; clear h9
  have hd1 : decide (n < 1) = false := by simp; omega
  by_cases hl : len = 0
  · subst hl
    go_enter Tq.func48, Tq.ntmps48
    go_wp2
    go_ret
    exact picked_of 0 H.out hp (by omega) (by omega)
  · have hle : ((len : Int) == 0) = false := by simpa using hl
    obtain ⟨b, off, rfl, hb, hc⟩ := H9.out (by omega)
    by_cases hin : p < len
    · have hcell := hc p hin
      have hbr := H8.out (bs[p]?.getD 0) (by have : p < bs.length := by rw [H7.out]; exact hin
                                             simp [this])
      obtain ⟨z, hz⟩ : ∃ z, bs[p]?.getD 0 = z := ⟨_, rfl⟩
      rw [hz] at hcell hbr
      clear hz hc
      go_enter Tq.func48, Tq.ntmps48
      go_wp2
      go_ret
      exact picked_of 0 H.out hp (Int.emod_nonneg _ (by omega)) (Int.emod_lt_of_pos _ (by omega))
    · have hget : ∀ j, j < len → ∃ z, (0 ≤ z ∧ z ≤ 255) ∧ w.cell? ⟨b, off + j, none⟩ = some (.int .u8 z) := fun j hj =>
        ⟨_, H8.out (bs[j]?.getD 0) (by have : j < bs.length := by rw [H7.out]; exact hj
                                       simp [this]), hc j hj⟩
      obtain ⟨z1, hz1, hcell1⟩ := hget (p % len) (Nat.mod_lt _ (by omega))
      obtain ⟨z2, hz2, hcell2⟩ := hget ((p * 7 + 3) % len) (Nat.mod_lt _ (by omega))
      have hq0 : (0 : Int) ≤ (p : Int) / (len : Int) := Int.ediv_nonneg (by omega) (by omega)
      have hq1 : (p : Int) / (len : Int) ≤ (p : Int) := Int.ediv_le_self _ (by omega)
      have hm1 : (0 : Int) ≤ (p : Int) % (len : Int) := Int.emod_nonneg _ (by omega)
      have hm2 : (p : Int) % (len : Int) < (len : Int) := Int.emod_lt_of_pos _ (by omega)
      have hm3 : ((p : Int) % (len : Int)).toNat = p % len := by rw [← Int.natCast_emod, Int.toNat_natCast]
      have hk1 : (0 : Int) ≤ ((p : Int) * 7 + 3) % (len : Int) := Int.emod_nonneg _ (by omega)
      have hk2 : ((p : Int) * 7 + 3) % (len : Int) < (len : Int) := Int.emod_lt_of_pos _ (by omega)
      have hk3 : (((p : Int) * 7 + 3) % (len : Int)).toNat = (p * 7 + 3) % len := by
        have e : ((p : Int) * 7 + 3) = ((p * 7 + 3 : Nat) : Int) := by omega
        rw [e, ← Int.natCast_emod, Int.toNat_natCast]
      clear hc hget
      go_enter Tq.func48, Tq.ntmps48
      go_wp2
      go_quiet (fail)
      clear hm1 hm2 hm3 hk1 hk2 hk3
      go_wp2
      go_ret
      have hE := pick_range (z1 * 131 + z2 * 1117 + (p : Int) * 29 + (p : Int) / (len : Int) * 53) n (by omega) (by omega) hn
      exact picked_of nq H.out hp hE.1 hE.2

end Go.Proofs.Ytgkakgibgfehaaa

namespace Go.Proofs.Ytgkakgibgfehaaa
open Go.RowKit

theorem one_int (q : Int) : ∀ u ∈ [Value.int .i64 q], u.oneCell' = true := by simp [Value.oneCell']
theorem base_alloc {b : Nat} {w : World} (h : b ≤ w.heap.size) (o : Obj) : b ≤ (w.alloc o).heap.size := by simp; omega
theorem size_two (w : World) (o o' : Obj) : ((w.alloc o).alloc o').heap.size = w.heap.size + 1 + 1 := by simp
theorem own_at {g j len cap : Nat} (e : (Value.slice (some ⟨g, 0, none⟩) len cap).ownBlock = some j) : g = j := by cases e; rfl
theorem Step.of_drew {R : Nat} {w w' : World} (h : Step R w.drew w') : Step R w w' := ⟨h.os, h.tape, h.output, h.size, h.block⟩

theorem Step.refl (R : Nat) (w : World) : Step R w w := ⟨rfl, rfl, rfl, Nat.le_refl _, fun _ _ _ => rfl⟩
theorem Step.alloc {R : Nat} {w w' : World} (h : Step R w w') (o : Obj) : Step R w (w'.alloc o) :=
  ⟨h.os, h.tape, h.output, by have := h.size; simp; omega, fun k hk hr => (Below.heap_alloc _ _ _ (Nat.lt_of_lt_of_le hk h.size)).trans (h.block k hk hr)⟩
theorem Step.grown {R : Nat} {w w' w2 : World} {row : Option Nat} (h : Step R w w') (g : w'.grownBy w2 row) (hr : ∀ k, row = some k → w.heap.size ≤ k ∨ k = R) : Step R w w2 :=
  ⟨g.os.trans h.os, g.tape.trans h.tape, g.output.trans h.output, Nat.le_trans h.size g.size, fun k hk hne => (g.block k (Nat.lt_of_lt_of_le hk h.size) (fun e => by
    rcases hr k e.symm with h1 | h1
    · omega
    · exact hne (by rw [h1]))).trans (h.block k hk hne)⟩
theorem Step.trans {R : Nat} {a b c : World} (h : Step R a b) (g : Step R b c) : Step R a c := h.grown g (fun k e => by cases e; exact .inr rfl)
theorem owns_step {w w' : World} {R base n size : Nat} {e : TypeId} {v : Value} {xs : List Value} (h : w.ownsRow base e size v n xs) (hs : Step R w w') (hR : R < base) : w'.ownsRow base e size v n xs := by
  refine h.kept hs ?_
  cases hb : v.ownBlock with
  | none => exact .inl rfl
  | some k => have := (h.lt k hb).1; right; intro e2; cases e2; omega
theorem Rd.grown {w w' : World} {R p : Nat} {row : Option Nat} (h : Rd w R p) (g : w.grownBy w' row) (hr : ∀ k, row = some k → R < k) : Rd w' R p :=
  have hb : Below (R + 1) w w' := ⟨g.os, g.tape, g.output, g.size, fun k hk => g.block k (by have := h.1; omega) (fun e => by have := hr k e.symm; omega)⟩
  by
    obtain ⟨h1, h2, h3, h4, a, len, cap, bs, h5, h6, h7, h8, h9⟩ := h
    refine ⟨Nat.lt_of_lt_of_le h1 g.size, h2, (hb.cell (p := ⟨R, 1, none⟩) (by simp)).trans h3, (hb.frozen (p := ⟨R, 1, none⟩) (by simp)).trans h4, a, len, cap, bs, (hb.cell (p := ⟨R, 0, none⟩) (by simp)).trans h5, h6, h7, h8, fun hl => ?_⟩
    obtain ⟨b, off, e, hbR, hc⟩ := h9 hl
    exact ⟨b, off, e, hbR, fun j hj => (hb.cell (p := ⟨b, off + j, none⟩) (by simp; omega)).trans (hc j hj)⟩

set_option maxRecDepth 100000 in
set_option maxHeartbeats 1000000 in
/-- **l6Open**: a new reader. -/
theorem open_any (a : Option Addr) (len cap : Nat) (bs : List Int) (w : World) (h : IsBytes w a len bs) (hcap : len ≤ cap) (hl : len ≤ 1048600) :
    Calls Tq.prog 47 #[.slice a len cap] w fun e w' => e = .returned (.pointer (some ⟨w.heap.size, 0, none⟩)) ∧ Rd w' w.heap.size 0 ∧ Below w.heap.size w w' := by
  by_cases hb : 2000 < len
  · obtain ⟨h1, h2, h4⟩ := h
    obtain ⟨b, off, rfl, hbw, hc⟩ := h4 (by omega)
    have HR : Hid (Rd (w.alloc (.cells #[.slice (some ⟨b, off, none⟩) 2000 cap, .int .i64 0] 89)) w.heap.size 0) := by
      have hB : Below w.heap.size w (w.alloc (.cells #[.slice (some ⟨b, off, none⟩) 2000 cap, .int .i64 0] 89)) := (Below.refl _ w).alloc (Nat.le_refl _) _
      refine ⟨by simp, by omega, (World.cell?_alloc_mark w _ _ (0, 0) 1).trans rfl, (World.frozen?_alloc_mark w _ _ 0 0 1).trans rfl, _, 2000, cap, bs.take 2000, (World.cell?_alloc_mark w _ _ (0, 0) 0).trans rfl, by omega, by simp; omega, fun z hz => h2 z (List.mem_of_mem_take hz), fun _ => ⟨b, off, rfl, hbw, fun j hj => ?_⟩⟩
      rw [List.getElem?_take_of_lt hj]
      exact (hB.cell (p := ⟨b, off + j, none⟩) hbw).trans (hc j (by omega))
    clear h2 h4 hc
    go_enter Tq.func47, Tq.ntmps47
    go_wp2
    go_ret
    exact ⟨rfl, HR.out, (Below.refl _ w).alloc (Nat.le_refl _) _⟩
  · obtain ⟨h1, h2, h4⟩ := h
    have HR : Hid (Rd (w.alloc (.cells #[.slice a len cap, .int .i64 0] 89)) w.heap.size 0) := by
      have hB : Below w.heap.size w (w.alloc (.cells #[.slice a len cap, .int .i64 0] 89)) := (Below.refl _ w).alloc (Nat.le_refl _) _
      refine ⟨by simp, by omega, (World.cell?_alloc_mark w _ _ (0, 0) 1).trans rfl, (World.frozen?_alloc_mark w _ _ 0 0 1).trans rfl, _, len, cap, bs, (World.cell?_alloc_mark w _ _ (0, 0) 0).trans rfl, by omega, h1, h2, fun hp => ?_⟩
      obtain ⟨b, off, e, hbw, hc⟩ := h4 hp
      exact ⟨b, off, e, hbw, fun j hj => (hB.cell (p := ⟨b, off + j, none⟩) hbw).trans (hc j hj)⟩
    clear h2 h4
    go_enter Tq.func47, Tq.ntmps47
    go_wp2
    go_ret
    exact ⟨rfl, HR.out, (Below.refl _ w).alloc (Nat.le_refl _) _⟩

end Go.Proofs.Ytgkakgibgfehaaa

namespace Go.Proofs.Ytgkakgibgfehaaa
open Go.RowKit

/-- append to a slice of the call's own, as one step of a region that draws. -/
theorem step_append_own {P : Program} {ops : Array Oper} {o : Oper} {a : Act} {w : World} {K : Act → World → Prop} {Q : Exit → Act → World → Prop} {E : Prop}
    (hg : o.guard = none) (s x : Operand) (t : TypeId) (ho : o.op = .call { callee := .builtin .append, args := #[s, x], argTypes := #[t, t] })
    (base : Nat) (e : TypeId) (i : TypeInfo) (z : Value) (size bytes : Nat) (ht : P.underlying t = some (.slice e)) (hi : P.info? e = some i) (hz : i.zero = some z)
    (hsize : i.size = size) (hby : i.bytes = bytes) (hzs : z.cells.size = size) (hsz : 0 < size)
    (v : Value) (n : Nat) (xs : List Value) (hs : a.eval s = v) (hown : w.ownsRow base e size v n xs)
    (ad : Addr) (m c : Nat) (news : List Value) (hx : a.eval x = .slice (some ad) m c) (hl : news.length = m * size) (hnews : ∀ j u, news[j]? = some u → w.cell? (ad.add j) = some u) (h1 : ∀ u ∈ news, u.oneCell' = true)
    (h63 : n + m ≤ maxLen) (hbytes : (n + m) * bytes ≤ 140737488355328) (hbase : base ≤ w.heap.size)
    (h : ∀ v' w', w'.ownsRow base e size v' (n + m) (xs ++ news) → w.grownBy w' v.ownBlock → (v' = .slice none 0 0 ↔ v = .slice none 0 0 ∧ m = 0) → K (a.put o.dst v') w') :
    if Region.wanted o (yielded ops a.tmps) = true then Oper.wp P o a w K Q else E := by
  have hw : Region.wanted o (yielded ops a.tmps) = true := by simp [Region.wanted, hg]
  rw [if_pos hw]
  exact wp_append_own w s x t ho base e i z size bytes ht hi hz hsize hby hzs hsz v n xs hs hown ad m c news hx hl hnews h1 h63 hbytes hbase h

end Go.Proofs.Ytgkakgibgfehaaa
