/-
  spec.LotsOf: what it returns for every number of candidates and every seed, in memory of its own; it writes into no memory that was there.
  Lots, drawn (l91Lots, DrawLotsValid, DrawLotsFirst): a new slice of ints (and one of bools); nothing is written that was there. No condition but what each theorem says.
  What the drawn statements of depths get: some list of at most 13 piles, a number from 0 to 6, and a depth from -1 to 6 (DrawDepthCounts).
-/
import Derived.Test.YtojfpnjnbpeniaaGrp9
import Derived.Test.YtojfpnjnbpeniaaGrp8
import Derived.Test.YtojfpnjnbpeniaaGrp12
import Derived.Test.YtojfpnjnbpeniaaGrp18
import Derived.Deep.RegionLaw
import Derived.Deep.Onto
namespace Go.Proofs.Ytojfpnjnbpeniaa
open Go.RowKit

/-- The blocks of two slices are not the same. -/
def Apart (v v' : Value) : Prop := ∀ j, v.ownBlock = some j → v'.ownBlock ≠ some j
theorem kept_apart {w w' : World} {base n size : Nat} {e : TypeId} {v u : Value} {xs : List Value} (h : w.ownsRow base e size v n xs) (hg : w.grownBy w' u.ownBlock) (ha : Apart u v) : w'.ownsRow base e size v n xs := by
  refine h.kept hg ?_
  cases hb : v.ownBlock with
  | none => exact .inl rfl
  | some j => right; intro e2; exact ha j e2.symm hb
theorem lotsRow_low {w : World} {base base' n size : Nat} {e : TypeId} {v : Value} {xs : List Value} (h : w.ownsRow base e size v n xs) (hb : base' ≤ base) : w.ownsRow base' e size v n xs := by
  refine ⟨h.1, ?_⟩
  rcases h.2 with hn | ⟨g, cap, cur, h1, h2, h3⟩
  · exact .inl hn
  · exact .inr ⟨g, cap, cur, h1, Nat.le_trans hb h2, h3⟩
theorem owned_at {w : World} {base n : Nat} {a : Option Addr} {cap : Nat} {xs : List Value} (h : w.ownsRow base 3 1 (.slice a n cap) n xs) (hn : 0 < n) : ∃ g, a = some ⟨g, 0, none⟩ ∧ g < w.heap.size ∧ n ≤ cap ∧ cap ≤ maxLen := by
  rcases h.2 with ⟨_, e0⟩ | ⟨g, c, cur, e, _, hg, h1, h2, _⟩
  · omega
  · injection e with e1 _ e3
    subst e3
    exact ⟨g, e1, (Array.getElem?_eq_some_iff.1 hg).1, h1, h2⟩
theorem erase_parts (rest : List Int) (k : Nat) : rest.take k ++ rest.drop (k + 1) = rest.eraseIdx k := (List.eraseIdx_eq_take_drop_succ rest k).symm

/-- The length of a slice's value. -/
def sliceLen : Value → Nat
  | .slice _ n _ => n
  | _ => 0

/-- What the drawing loop keeps: those that are left, the lots drawn, in two blocks of the call's own. -/
def LotInv (w : World) (k s : Nat) (sv rv lv : Value) (wr : World) : Prop := ∃ (sd : Nat) (rest out : List Int) (a : Option Addr) (cap : Nat) (a2 : Option Addr) (cap2 : Nat), sd ≤ 999 ∧ sv = .int .i64 (sd : Int) ∧ rv = .slice a rest.length cap ∧ lv = .slice a2 out.length cap2 ∧ rest.length ≤ 5 ∧ out.length + rest.length = k ∧
  Hid (out ++ lotR rest sd = lotsOf k s) ∧ Hid (wr.ownsRow w.heap.size 3 1 (.slice a rest.length cap) rest.length (rest.map (Value.int .i64))) ∧ Hid (wr.ownsRow w.heap.size 3 1 (.slice a2 out.length cap2) out.length (out.map (Value.int .i64))) ∧ Hid (Apart (.slice a2 out.length cap2) (.slice a rest.length cap)) ∧ Below w.heap.size w wr

set_option maxRecDepth 100000 in
set_option maxHeartbeats 4000000 in
/-- **spec.LotsOf**, at a number of candidates and a seed in range. -/
theorem specLotsOf_yes (n s : Nat) (w : World) (hn1 : 1 ≤ n) (hn5 : n ≤ 5) (hs : s ≤ 999) :
    Calls Try.prog 140 #[.int .i64 (n : Int), .int .i64 (s : Int)] w fun e w' => ∃ a cap, e = .returned (.tuple #[.slice a n cap, .bool true]) ∧ w'.ownsRow w.heap.size 3 1 (.slice a n cap) n ((lotsOf n s).map (Value.int .i64)) ∧ Below w.heap.size w w' := by
  obtain ⟨i0, hi, hz0, hz1, hz2⟩ := info_parts int_info
  have H1 := Lib.hid (inB_yes (x := (n : Int)) (lo := 1) (hi := 5) (by omega) (by omega))
  have H2 := Lib.hid (inB_yes (x := (s : Int)) (lo := 0) (hi := 999) (by omega) (by omega))
  have HE0 := Lib.hid (World.ownsRow_lit (base := w.heap.size) (e := 3) (size := 1) w #[] 0 (Nat.le_refl _) (by unfold maxLen; omega) rfl)
  have HB0 : Below w.heap.size w (w.alloc (.cells #[] 3)) := (Below.refl _ w).alloc (Nat.le_refl _) _
  go_enter Try.func140, Try.ntmps140
  go_wp2_with fail
  refine (l6In_any _ _ _ _).mono ?_
  rintro e w' ⟨he, rfl⟩
  rw [H1.out] at he
  subst he
  go_wp2_with fail
  refine (l6In_any _ _ _ _).mono ?_
  rintro e w' ⟨he, rfl⟩
  rw [H2.out] at he
  subst he
  go_wp2
  go_loopw [6, 7] (fun rv iv wr => ∃ (k : Nat) (a : Option Addr) (cap : Nat), k ≤ n ∧ iv = .int .i64 (k : Int) ∧ rv = .slice a k cap ∧ Hid (wr.ownsRow w.heap.size 3 1 (.slice a k cap) k ((fromZero k).map (Value.int .i64))) ∧ Below w.heap.size w wr) (fun _ iv _ => n - (intOf iv).toNat)
  case atStart => exact ⟨0, _, _, Nat.zero_le _, rfl, rfl, HE0.out, HB0⟩
  case round =>
    obtain ⟨k, a, cap, hk, rfl, rfl, ho, hB⟩ := hrel
    by_cases hlt : k < n
    · go_wp2_with (at_builtin; refine wpList_append_own _ rfl _ _ 26 rfl w.heap.size 3 i0 (.int .i64 0) 1 8 Try.underlying26 hi hz0 hz1 hz2 rfl (by decide) _ _ _ rfl (ho.out.alloc _) ⟨wr.heap.size, 0, none⟩ 1 1 [.int .i64 (k : Int)] rfl rfl (cell_one_new _ _ _) (by simp [Value.oneCell']) (by unfold maxLen; omega) (by omega) (by have := hB.size; simp; omega) ?_; intro v' w4 hown' hgrow _; obtain ⟨a4, cap4, rfl⟩ := owns_slice hown')
      have hrow : ∀ j, (Value.slice a k cap).ownBlock = some j → w.heap.size ≤ j := fun j ej => (ho.out.lt j ej).1
      have hB4 := (hB.alloc hB.size (.cells #[.int .i64 (k : Int)] 3)).grown hgrow (by have := hB.size; simp; omega) (fun j e => hrow j e)
      have HO4 : Hid (w4.ownsRow w.heap.size 3 1 (.slice a4 (k + 1) cap4) (k + 1) ((fromZero (k + 1)).map (Value.int .i64))) := by
        unfold Hid; rw [fromZero_succ, List.map_append]; exact hown'
      clear hown' hgrow hrow
      go_wp2
      go_roundw
      case rel => exact ⟨k + 1, a4, cap4, by omega, by go_num, rfl, HO4.out, hB4⟩
      case measure => simp [intOf]; omega
    · obtain rfl : k = n := by omega
      have HR : Hid ((fromZero k).length = k) := fromZero_length k
      have HRE := Lib.hid (ho.out.alloc (.cells #[] 3))
      have hlt0 : Hid (∀ j, (Value.slice a k cap).ownBlock = some j → j < wr.heap.size) := fun j ej => (ho.out.lt j ej).2
      have hsz := hB.size
      have HOE := Lib.hid (World.ownsRow_lit (base := w.heap.size) (e := 3) (size := 1) wr #[] 0 hsz (by unfold maxLen; omega) rfl)
      have hB1 := hB.alloc hsz (.cells #[] 3)
      go_wp2
      go_loopw [1, 6, 8, 9] (fun sv rv lv kv wr => LotInv w k s sv rv lv wr) (fun _ rv _ _ _ => sliceLen rv)
      case atStart =>
        unfold LotInv
        refine ⟨s, fromZero k, [], a, cap, _, _, hs, rfl, by rw [HR.out], rfl, by rw [HR.out]; exact hn5, by rw [HR.out]; simp, ?_, ?_, HOE.out, ?_, hB1⟩
        · unfold Hid; rw [lotR_all]; rfl
        · unfold Hid; rw [HR.out]; exact HRE.out
        · intro j h1 h2
          have e1 : j < wr.heap.size := hlt0.out j (by rw [HR.out] at h2; exact h2)
          have h1 : some wr.heap.size = some j := h1
          injection h1 with h1
          omega
      case round =>
        clear HR HRE HOE hlt0 hB1 hsz ho hB
        obtain ⟨sd, rest, out, a, cap, a2, cap2, hsd, rfl, rfl, rfl, hr5, hsum, hall, ho, ho2, hap, hB⟩ := hrel
        by_cases hlt : 0 < rest.length
        · obtain ⟨g, rfl, hgw, hcap, hmx⟩ := owned_at ho.out hlt
          have hgt : decide (0 < (rest.length : Int)) = true := decide_eq_true (by omega)
          have hkz : ((rest.length : Int) == 0) = false := beq_eq_false_iff_ne.2 (by omega)
          obtain ⟨q, hqe⟩ : ∃ q, sd % rest.length = q := ⟨_, rfl⟩
          obtain ⟨d, hde⟩ : ∃ d, sd / rest.length = d := ⟨_, rfl⟩
          have hqk : q < rest.length := by rw [← hqe]; exact Nat.mod_lt sd hlt
          have hd9 : d ≤ sd := by rw [← hde]; exact Nat.div_le_self sd _
          have hq : ((sd : Int) % (rest.length : Int)) = (q : Int) := by rw [← hqe]; exact (Int.natCast_emod sd rest.length).symm
          have hdv : ((sd : Int) / (rest.length : Int)) = (d : Int) := by rw [← hde]; exact (Int.natCast_ediv sd rest.length).symm
          have HST := Lib.hid (lotR_step (rest := rest) rfl (by omega) sd)
          rw [hqe, hde] at HST
          have HEL := Lib.hid (erase_length (rest := rest) rfl hqk)
          have hcz := ho.out.cellAt q (by omega)
          obtain ⟨z, hz⟩ : ∃ z, rest[q]?.getD 0 = z := ⟨_, rfl⟩
          have HZ := Lib.hid hz
          have hcell : wr.cell? ⟨g, q, none⟩ = some (.int .i64 z) := by
            rw [hcz, ← hz]; simp [hqk]
          clear hcz hz hqe hde
          go_wp2_with (at_builtin; refine wpList_append_own _ rfl _ _ 26 rfl w.heap.size 3 i0 (.int .i64 0) 1 8 Try.underlying26 hi hz0 hz1 hz2 rfl (by decide) _ _ _ rfl (ho2.out.alloc _) ⟨wr.heap.size, 0, none⟩ 1 1 [.int .i64 z] rfl rfl (cell_one_new _ _ _) (by simp [Value.oneCell']) (by unfold maxLen; omega) (by omega) (by have := hB.size; simp; omega) ?_; intro v' w4 hown' hgrow _; obtain ⟨a4, cap4, rfl⟩ := owns_slice hown')
          have hrow : ∀ j, (Value.slice a2 out.length cap2).ownBlock = some j → w.heap.size ≤ j := fun j ej => (ho2.out.lt j ej).1
          have hB4 := (hB.alloc hB.size (.cells #[.int .i64 z] 3)).grown hgrow (by have := hB.size; simp; omega) (fun j e => hrow j e)
          have O3 : Hid (w4.ownsRow w.heap.size 3 1 (.slice (some ⟨g, 0, none⟩) rest.length cap) rest.length (rest.map (Value.int .i64))) := kept_apart (ho.out.alloc _) hgrow hap.out
          have HO4 : Hid (w4.ownsRow w.heap.size 3 1 (.slice a4 (out.length + 1) cap4) (out.length + 1) ((out ++ [z]).map (Value.int .i64))) := by
            unfold Hid; rw [List.map_append]; exact hown'
          have hg4 : g < w4.heap.size := (O3.out.lt g rfl).2
          have hcs : Hid (∀ j, j < rest.length → w4.cell? ⟨g, 0 + j, none⟩ = some (.int .i64 (rest[j]?.getD 0))) := fun j hj => by
            rw [Nat.zero_add, O3.out.cellAt j (by omega)]; simp [hj]
          have hE : Hid ((w4.alloc (.cells #[] 3)).drew.ownsRow w4.heap.size 3 1 (.slice (some ⟨w4.heap.size, 0, none⟩) 0 0) 0 []) := (World.ownsRow_lit (base := w4.heap.size) (e := 3) (size := 1) w4 #[] 0 (Nat.le_refl _) (by unfold maxLen; omega) rfl).drew
          clear hown' hgrow hrow ho ho2 hap hB hcell
          go_wp2
          have hqc : q ≤ cap := by omega
          have hq1 : q + 1 ≤ rest.length := by omega
          have hk1i : (q : Int) + 1 ≤ (rest.length : Int) := by omega
          have hk0 : (0 : Int) ≤ (q : Int) + 1 := by omega
          have hzci : (rest.length : Int) ≤ (cap : Int) := by omega
          have L1 : Hid (((rest.take q).map (Value.int .i64)).length = q * 1) := by unfold Hid; simp; omega
          have L2 : Hid (((rest.drop (q + 1)).map (Value.int .i64)).length = (rest.length - (q + 1)) * 1) := by unfold Hid; simp
          have P1 : Hid (∀ j u, ((rest.take q).map (Value.int .i64))[j]? = some u → (w4.alloc (.cells #[] 3)).drew.cell? ((⟨g, 0, none⟩ : Addr).add j) = some u) :=
            piece_cells (zs := rest) (len := rest.length) (off := 0) rfl (fun j hj => (((Below.refl w4.heap.size w4).alloc (Nat.le_refl _) _).drew.cell (p := ⟨g, 0 + j, none⟩) hg4).trans (hcs.out j hj)) 0 q 0 (by omega) rfl
          have M1 : 0 + q ≤ maxLen := by unfold maxLen; omega
          have N1 : (0 + q) * 8 ≤ 140737488355328 := by omega
          have S1 : w4.heap.size ≤ (w4.alloc (.cells #[] 3)).drew.heap.size := by simp
          have M2 : q + (rest.length - (q + 1)) ≤ maxLen := by unfold maxLen; omega
          have N2 : (q + (rest.length - (q + 1))) * 8 ≤ 140737488355328 := by omega
          have M2e : q + 0 ≤ maxLen := by unfold maxLen; omega
          have N2e : (q + 0) * 8 ≤ 140737488355328 := by omega
          by_cases hck : cap = q + 1
          · subst hck
            have hzl : rest.length ≤ q + 1 := by omega
            have L2e : Hid (((rest.drop (q + 1)).map (Value.int .i64)).length = 0 * 1) := by unfold Hid; simp; omega
            have PE := Lib.hid (rest_none hzl)
            have hkci : (q : Int) ≤ (q : Int) + 1 := by omega
            have hkcc : (q : Int) + 1 ≤ (q : Int) + 1 := by omega
            have hzk : (rest.length : Int) ≤ (q : Int) + 1 := by omega
            have hw1 : IntKind.i64.wrap ((q : Int) + 1) = (q : Int) + 1 := IntWalk.i64_in _ (by omega)
            have ht1 : ((q : Int) + 1).toNat = q + 1 := by omega
            go_region_law (first
              | (refine step_append_own (by rfl) _ _ _ (by rfl) w4.heap.size 3 i0 (.int .i64 0) 1 8 Try.underlying26 hi hz0 hz1 hz2 rfl Nat.one_pos (.slice (some ⟨w4.heap.size, 0, none⟩) 0 0) 0 [] (by rfl) hE.out ⟨g, 0, none⟩ q _ ((rest.take q).map (Value.int .i64)) (by rfl) L1.out P1.out (ints_one _) M1 N1 S1 ?_; intro v5 w5 hown5 hgrow5 _; simp only [Nat.zero_add, List.nil_append] at hown5; obtain ⟨a5, c5, rfl⟩ := owns_slice hown5; have C5 := Lib.hid (kept_cells hg4 hgrow5 hcs.out); have B5 := Lib.hid (kept_below hgrow5); have O5 := Lib.hid hown5; clear hown5 hgrow5)
              | (refine step_append_own (by rfl) _ _ _ (by rfl) w4.heap.size 3 i0 (.int .i64 0) 1 8 Try.underlying26 hi hz0 hz1 hz2 rfl Nat.one_pos (.slice a5 q c5) q ((rest.take q).map (Value.int .i64)) (by rfl) O5.out ⟨g, 0, none⟩ 0 _ ((rest.drop (q + 1)).map (Value.int .i64)) (by rfl) L2e.out (fun j u h => (PE.out j u h).elim) (ints_one _) M2e N2e B5.out.size ?_; intro v6 w6 hown6 hgrow6 _; obtain ⟨a6, c6, rfl⟩ := owns_slice hown6; have B6 := Lib.hid (B5.out.grown hgrow6 B5.out.size (fun j ej => (O5.out.lt j ej).1)); have X6 := Lib.hid hown6; clear hown6 hgrow6))
            all_goals
              clear hw1 ht1
              have O6 := Lib.hid (lotsRow_low (owns_under HO4.out B6.out) (Nat.le_refl _))
              have hB6 := hB4.trans (B6.out.mono hB4.size)
              have hap6 : Hid (Apart (.slice a4 (out.length + 1) cap4) (.slice a6 (q + 0) c6)) := by
                intro j h1 h2
                have e1 := (HO4.out.lt j h1).2
                have e2 := (X6.out.lt j h2).1
                omega
              have X7 := Lib.hid (lotsRow_low X6.out hB4.size)
              have hinv : LotInv w k s (.int .i64 (d : Int)) (.slice a6 (q) c6) (.slice a4 (out.length + 1) cap4) w6 := by
                unfold LotInv
                refine ⟨d, rest.eraseIdx q, out ++ [z], a6, c6, a4, cap4, by omega, rfl, ?g1, ?g2, ?g3, ?g4, ?g5, ?g6, ?g7, ?g8, hB6⟩
                case g1 => rw [HEL.out, show rest.length - 1 = q by omega]
                case g2 => rw [List.length_append]; rfl
                case g3 => rw [HEL.out]; omega
                case g4 => rw [HEL.out, List.length_append, List.length_singleton]; omega
                case g5 => unfold Hid; rw [← hall.out, HST.out, HZ.out, List.append_assoc]; rfl
                case g6 => unfold Hid; rw [HEL.out, ← erase_parts, List.map_append]; have := X7.out; rwa [show rest.length - 1 = q + 0 by omega]
                case g7 => unfold Hid; rw [List.length_append]; exact O6.out
                case g8 => unfold Hid; rw [HEL.out, List.length_append, show rest.length - 1 = q + 0 by omega]; exact hap6.out
              have HINV := Lib.hid hinv
              have hms : q < rest.length := by omega
              clear hinv X6 X7 hap6 O6 B6
              go_wp2
              go_roundw
              case rel => exact ⟨_, _, _, HINV.out, rfl, rfl, rfl⟩
              case measure => simpa [sliceLen] using hms
          · have hkci : (q : Int) ≤ (cap : Int) := by omega
            have hkcc : (q : Int) + 1 ≤ (cap : Int) := by omega
            have hck2 : ¬ cap = q := by omega
            have hw1 : IntKind.i64.wrap ((q : Int) + 1) = (q : Int) + 1 := IntWalk.i64_in _ (by omega)
            have ht1 : ((q : Int) + 1).toNat = q + 1 := by omega
            go_region_law (first
              | (refine step_append_own (by rfl) _ _ _ (by rfl) w4.heap.size 3 i0 (.int .i64 0) 1 8 Try.underlying26 hi hz0 hz1 hz2 rfl Nat.one_pos (.slice (some ⟨w4.heap.size, 0, none⟩) 0 0) 0 [] (by rfl) hE.out ⟨g, 0, none⟩ q _ ((rest.take q).map (Value.int .i64)) (by rfl) L1.out P1.out (ints_one _) M1 N1 S1 ?_; intro v5 w5 hown5 hgrow5 _; simp only [Nat.zero_add, List.nil_append] at hown5; obtain ⟨a5, c5, rfl⟩ := owns_slice hown5; have C5 := Lib.hid (kept_cells hg4 hgrow5 hcs.out); have B5 := Lib.hid (kept_below hgrow5); have O5 := Lib.hid hown5; clear hown5 hgrow5)
              | (refine step_append_own (by rfl) _ _ _ (by rfl) w4.heap.size 3 i0 (.int .i64 0) 1 8 Try.underlying26 hi hz0 hz1 hz2 rfl Nat.one_pos (.slice a5 q c5) q ((rest.take q).map (Value.int .i64)) (by rfl) O5.out ⟨g, q + 1, none⟩ (rest.length - (q + 1)) _ ((rest.drop (q + 1)).map (Value.int .i64)) (by rfl) L2.out (piece_rest rfl C5.out (q + 1) (q + 1) hq1 (Nat.zero_add _).symm) (ints_one _) M2 N2 B5.out.size ?_; intro v6 w6 hown6 hgrow6 _; obtain ⟨a6, c6, rfl⟩ := owns_slice hown6; have B6 := Lib.hid (B5.out.grown hgrow6 B5.out.size (fun j ej => (O5.out.lt j ej).1)); have X6 := Lib.hid hown6; clear hown6 hgrow6))
            all_goals
              clear hw1 ht1
              obtain ⟨m, hm⟩ : ∃ m, q + (rest.length - (q + 1)) = m := ⟨_, rfl⟩
              rw [hm] at X6 ⊢
              have hmr : rest.length - 1 = m := by omega
              have hms : m < rest.length := by omega
              have O6 := Lib.hid (lotsRow_low (owns_under HO4.out B6.out) (Nat.le_refl _))
              have hB6 := hB4.trans (B6.out.mono hB4.size)
              have hap6 : Hid (Apart (.slice a4 (out.length + 1) cap4) (.slice a6 m c6)) := by
                intro j h1 h2
                have e1 := (HO4.out.lt j h1).2
                have e2 := (X6.out.lt j h2).1
                omega
              have X7 := Lib.hid (lotsRow_low X6.out hB4.size)
              have hinv : LotInv w k s (.int .i64 (d : Int)) (.slice a6 m c6) (.slice a4 (out.length + 1) cap4) w6 := by
                unfold LotInv
                refine ⟨d, rest.eraseIdx q, out ++ [z], a6, c6, a4, cap4, by omega, rfl, ?g1, ?g2, ?g3, ?g4, ?g5, ?g6, ?g7, ?g8, hB6⟩
                case g1 => rw [HEL.out, hmr]
                case g2 => rw [List.length_append]; rfl
                case g3 => rw [HEL.out]; omega
                case g4 => rw [HEL.out, List.length_append, List.length_singleton]; omega
                case g5 => unfold Hid; rw [← hall.out, HST.out, HZ.out, List.append_assoc]; rfl
                case g6 => unfold Hid; rw [HEL.out, ← erase_parts, List.map_append]; have := X7.out; rwa [hmr]
                case g7 => unfold Hid; rw [List.length_append]; exact O6.out
                case g8 => unfold Hid; rw [HEL.out, List.length_append, hmr]; exact hap6.out
              have HINV := Lib.hid hinv
              clear hinv X6 X7 hap6 O6 B6 hmr hm hck2 hkci hkcc hck hzci hk1i hk0 M1 N1 S1 M2 N2 M2e N2e L1 L2 P1 hqc hq1
              simp only [List.getElem_toArray, List.getElem_cons_succ, List.getElem_cons_zero, Act.put, List.setIfInBounds_toArray, List.set_cons_succ, List.set_cons_zero]
              go_wp2
              go_roundw
              case rel => exact HINV.out
              case measure => simpa [sliceLen] using hms
        · have hr0 : rest = [] := List.length_eq_zero_iff.1 (by omega)
          subst hr0
          have HL : Hid (out = lotsOf k s) := by
            have h2 := hall.out
            rw [lotR_nil, List.append_nil] at h2
            exact h2
          have hok : out.length = k := by simpa using hsum
          go_wp2
          go_ret2
          refine ⟨a2, cap2, by first | rfl | (rw [← hok]; rfl), ?_, hB⟩
          rw [← HL.out, ← hok]
          exact ho2.out

set_option maxHeartbeats 1000000 in
/-- **spec.LotsOf**, at arguments out of range. -/
theorem specLotsOf_no (n s : Int) (w : World) (h : okLots n s = false) :
    Calls Try.prog 140 #[.int .i64 n, .int .i64 s] w fun e w' => e = .returned (.tuple #[.slice (some ⟨w.heap.size, 0, none⟩) 0 0, .bool false]) ∧ w' = w.alloc (.cells #[] 3) := by
  cases hn : inB n 1 5
  · have HN := Lib.hid hn; clear hn h
    go_enter Try.func140, Try.ntmps140
    go_wp2_with fail
    refine (l6In_any _ _ _ _).mono ?_
    rintro e w' ⟨he, rfl⟩
    rw [HN.out] at he
    subst he
    go_wp2
    go_ret2
    exact ⟨rfl, rfl⟩
  · have hs : inB s 0 999 = false := by rw [okLots, hn, Bool.true_and] at h; exact h
    have HN := Lib.hid hn
    have HS := Lib.hid hs; clear hn hs h
    go_enter Try.func140, Try.ntmps140
    go_wp2_with fail
    refine (l6In_any _ _ _ _).mono ?_
    rintro e w' ⟨he, rfl⟩
    rw [HN.out] at he
    subst he
    go_wp2_with fail
    refine (l6In_any _ _ _ _).mono ?_
    rintro e w' ⟨he, rfl⟩
    rw [HS.out] at he
    subst he
    go_wp2
    go_ret2
    exact ⟨rfl, rfl⟩

/-- **spec.LotsOf**. -/
theorem specLotsOf_any (n s : Int) (w : World) :
    Calls Try.prog 140 #[.int .i64 n, .int .i64 s] w (Told w (lotsI n s) (okLots n s)) := by
  cases h : okLots n s
  · refine (specLotsOf_no n s w h).mono ?_
    rintro e w' ⟨rfl, rfl⟩
    rw [lotsI_no h]
    exact ⟨_, 0, rfl, World.ownsRow_lit w #[] 0 (Nat.le_refl _) (by unfold maxLen; omega) rfl, (Below.refl _ w).alloc (Nat.le_refl _) _⟩
  · have hh := okLots_of h
    obtain ⟨m, rfl⟩ := Int.eq_ofNat_of_zero_le (show 0 ≤ n by omega)
    obtain ⟨q, rfl⟩ := Int.eq_ofNat_of_zero_le (show 0 ≤ s by omega)
    refine (specLotsOf_yes m q w (by omega) (by omega) (by omega)).mono ?_
    rintro e w' ⟨a, cap, rfl, ho, hb⟩
    have hl : (lotsI (m : Int) (q : Int)).length = m := by rw [lotsI_yes h, lotsOf_length, Int.toNat_natCast]
    refine ⟨a, cap, by rw [hl], ?_, hb⟩
    rw [hl, lotsI_yes h]; exact ho

/-- **spec.LotsOf**, its answer named. -/
theorem specLotsOf_as (n s : Int) (pl : List Int) (ok : Bool) (w : World) (h1 : lotsI n s = pl) (h2 : okLots n s = ok) :
    Calls Try.prog 140 #[.int .i64 n, .int .i64 s] w (Told w pl ok) := by
  subst h1; subst h2; exact specLotsOf_any n s w

end Go.Proofs.Ytojfpnjnbpeniaa

namespace Go.Proofs.Ytojfpnjnbpeniaa
open Go.RowKit

theorem Step.of_below {R : Nat} {w w' : World} (hb : Below w.heap.size w w') : Step R w w' := ⟨hb.os, hb.tape, hb.output, hb.size, fun k hk _ => hb.block k hk⟩

/-- A shorter part of a list that is owned. -/
theorem owns_part {w : World} {base g n cap k : Nat} {xs : List Value} {e : TypeId} (h : w.ownsRow base e 1 (.slice (some ⟨g, 0, none⟩) n cap) n xs) (hk : k ≤ n) : w.ownsRow base e 1 (.slice (some ⟨g, 0, none⟩) k cap) k (xs.take k) := by
  have hl := h.1
  refine ⟨by simp; omega, ?_⟩
  rcases h.2 with ⟨e0, _⟩ | ⟨g', c, cur, e1, h1, h2, h3, h4, h5, h6⟩
  · cases e0
  · injection e1 with e2 _ e3
    injection e2 with e2
    injection e2 with e2
    subst e2; subst e3
    refine .inr ⟨g, cap, cur, rfl, h1, h2, by omega, h4, h5, ?_⟩
    rw [← h6, List.take_take]; congr 1; omega

theorem owns_not {w w' : World} {R base n size : Nat} {e : TypeId} {v : Value} {xs : List Value} (h : w.ownsRow base e size v n xs) (hs : Step R w w') (hR : ∀ j, v.ownBlock = some j → j ≠ R) : w'.ownsRow base e size v n xs := by
  refine h.kept hs ?_
  cases hb : v.ownBlock with
  | none => exact .inl rfl
  | some k => right; intro e2; injection e2 with e3; exact hR k hb e3
/-- Lots that were drawn: in memory of the call's own; the reader has gone on. -/
def DrawnLots (R p : Nat) (w : World) (e : Ending) (w' : World) : Prop := ∃ (zs : List Int) (a : Option Addr) (cap p' : Nat), e = .returned (.slice a zs.length cap) ∧ w'.ownsRow w.heap.size 3 1 (.slice a zs.length cap) zs.length (zs.map (Value.int .i64)) ∧ zs.length ≤ 5 ∧ Rd w' R p' ∧ p' ≤ p + 10 ∧ Step R w w'

set_option maxRecDepth 100000 in
set_option maxHeartbeats 2000000 in
/-- **l91Lots**. -/
theorem l91Lots_any (R p : Nat) (n : Int) (w : World) (h : Rd w R p) (hp : p + 30 ≤ 1000000) :
    Calls Try.prog 98 #[.pointer (some ⟨R, 0, none⟩), .int .i64 n] w (DrawnLots R p w) := by
  have hRw := h.1
  have H0 := Lib.hid h; clear h
  go_enter Try.func98, Try.ntmps98
  go_wp2_with fail
  refine (pick_any R p 256 _ H0.out (by omega) (by omega) (by omega)).mono ?_
  rintro e w1 ⟨c, rfl, hc, hr1, hs1⟩
  have R1 := Lib.hid hr1
  have S1 := Lib.hid hs1
  clear H0 hr1 hs1
  obtain ⟨pl, hpl⟩ : ∃ pl, lotsI n ((c : Int) * 3) = pl := ⟨_, rfl⟩
  obtain ⟨ok, hok⟩ : ∃ ok, okLots n ((c : Int) * 3) = ok := ⟨_, rfl⟩
  have hp5 : pl.length ≤ 5 := by rw [← hpl]; exact lotsI_short _ _
  have hp1 : ok = true → 1 ≤ pl.length := fun e => by
    rw [e] at hok
    have := okLots_of hok
    have := lotsI_length hok
    rw [hpl] at this
    omega
  have HP := Lib.hid hpl
  have HK := Lib.hid hok
  have hp1 := Lib.hid hp1
  clear hpl hok
  go_wp2_with fail
  refine (specLotsOf_as _ _ pl ok _ HP.out HK.out).mono ?_
  rintro e w2 ⟨a2, c2, rfl, ho, hb⟩
  have R2 := Lib.hid (R1.out.below hb)
  have S2 := Lib.hid (S1.out.trans (Step.of_below hb))
  have O2 := Lib.hid (ho.mono S1.out.size)
  clear ho hb R1
  cases hk : ok
  · subst hk
    go_wp2
    go_ret
    exact ⟨pl, a2, c2, p + 1, rfl, O2.out, hp5, R2.out, by omega, S2.out⟩
  · subst hk
    have hp1 := hp1.out rfl
    go_wp2_with fail
    refine (pick_any R (p + 1) 24 _ R2.out (by omega) (by omega) (by omega)).mono ?_
    rintro e w3 ⟨d, rfl, hd, hr3, hs3⟩
    have R3 := Lib.hid hr3
    have O3 := Lib.hid (owns_step O2.out hs3 hRw)
    have S3 := Lib.hid (S2.out.trans hs3)
    clear hr3 hs3 R2 O2 S2 S1
    by_cases hd0 : 0 < d
    · have hdd : decide (0 < (d : Int)) = true := decide_eq_true (by omega)
      go_wp2
      go_ret
      exact ⟨pl, a2, c2, p + 1 + 1, rfl, O3.out, hp5, R3.out, by omega, S3.out⟩
    · have hdd : decide (0 < (d : Int)) = false := decide_eq_false (by omega)
      go_wp2_with fail
      refine (pick_any R (p + 1 + 1) (pl.length : Int) _ R3.out (by omega) (by omega) (by omega)).mono ?_
      rintro e w4 ⟨k, rfl, hk4, hr4, hs4⟩
      have R4 := Lib.hid hr4
      have O4 := Lib.hid (owns_step O3.out hs4 hRw)
      have S4 := Lib.hid (S3.out.trans hs4)
      clear hr4 hs4 R3 O3 S3
      have hkn : k < pl.length := by omega
      obtain ⟨g, rfl, hgw, hcap, hmx⟩ := owned_at O4.out (by omega)
      go_wp2_with fail
      refine (pick_any R (p + 1 + 1 + 1) 2 _ R4.out (by omega) (by omega) (by omega)).mono ?_
      rintro e w5 ⟨q, rfl, hq5, hr5, hs5⟩
      have R5 := Lib.hid hr5
      have O5 := Lib.hid (owns_step O4.out hs5 hRw)
      have S5 := Lib.hid (S4.out.trans hs5)
      clear hr5 hs5 R4 O4 S4
      cases hq0 : ((q : Int) == 0)
      · go_wp2_with fail
        refine (pick_any R (p + 1 + 1 + 1 + 1) 7 _ R5.out (by omega) (by omega) (by omega)).mono ?_
        rintro e w6 ⟨x, rfl, hx6, hr6, hs6⟩
        have R6 := Lib.hid hr6
        have O6 := Lib.hid (owns_step O5.out hs6 hRw)
        have S6 := Lib.hid (S5.out.trans hs6)
        clear hr6 hs6 R5 O5 S5
        have hgb := (O6.out.lt g rfl).1
        have hcell : w6.cell? ⟨g, k, none⟩ = some (.int .i64 (pl[k]?.getD 0)) := by rw [O6.out.cellAt k (by omega)]; simp [hkn]
        obtain ⟨z, hz⟩ : ∃ z, pl[k]?.getD 0 = z := ⟨_, rfl⟩
        rw [hz] at hcell
        have hfz := O6.out.frozenAt k
        have HS := Lib.hid (O6.out.stored k (.int .i64 ((x : Int) - 1)))
        have HR7 : Hid (Rd (w6.setCell ⟨g, k, none⟩ (.int .i64 ((x : Int) - 1))) R (p + 1 + 1 + 1 + 1 + 1)) := R6.out.grown (row := some g) ⟨rfl, rfl, rfl, by simp [World.setCell], fun i hi hne => Below.heap_setCell _ _ _ _ (fun e => hne (by rw [e]))⟩ (fun j ej => by injection ej with ej; omega)
        have HS7 : Hid (Step R w (w6.setCell ⟨g, k, none⟩ (.int .i64 ((x : Int) - 1)))) := S6.out.grown (row := some g) ⟨rfl, rfl, rfl, by simp [World.setCell], fun i hi hne => Below.heap_setCell _ _ _ _ (fun e => hne (by rw [e]))⟩ (fun j ej => by injection ej with ej; omega)
        clear hz
        go_wp2
        go_ret
        refine ⟨pl.set k ((x : Int) - 1), some ⟨g, 0, none⟩, c2, p + 1 + 1 + 1 + 1 + 1, by rw [List.length_set]; rfl, ?_, by rw [List.length_set]; exact hp5, HR7.out, by omega, HS7.out⟩
        rw [List.length_set, List.map_set]
        exact HS.out.1
      · go_wp2
        go_ret
        have hlt : (pl.take k).length = k := by simp; omega
        refine ⟨pl.take k, some ⟨g, 0, none⟩, c2, p + 1 + 1 + 1 + 1, by rw [hlt]; rfl, ?_, by rw [hlt]; omega, R5.out, by omega, S5.out⟩
        rw [hlt, List.map_take]
        exact owns_part O5.out (by omega)

/-- What the draw of lots says to its caller. -/
def DrawnL (w : World) (e : Ending) (w' : World) : Prop := ∃ (zs : List Int) (a : Option Addr) (cap : Nat), e = .returned (.slice a zs.length cap) ∧ w'.ownsRow w.heap.size 3 1 (.slice a zs.length cap) zs.length (zs.map (Value.int .i64)) ∧ zs.length ≤ 5 ∧ Below w.heap.size w w'

/-- What the draw of lots and of some candidates says to its caller. -/
def DrawnLF (w : World) (e : Ending) (w' : World) : Prop := ∃ (zs : List Int) (a : Option Addr) (cap : Nat) (L : List Bool) (a' : Option Addr) (cap' : Nat), e = .returned (.tuple #[.slice a zs.length cap, .slice a' L.length cap']) ∧ w'.ownsRow w.heap.size 3 1 (.slice a zs.length cap) zs.length (zs.map (Value.int .i64)) ∧ zs.length ≤ 5 ∧ w'.ownsRow w.heap.size 4 1 (.slice a' L.length cap') L.length (L.map Value.bool) ∧ L.length ≤ 10 ∧ Below w.heap.size w w'

end Go.Proofs.Ytojfpnjnbpeniaa

namespace Go.Proofs.Ytojfpnjnbpeniaa
open Go.RowKit

attribute [local go_sem] Oper.semAt_some

/-- -1, 5 or 6. -/
def q5 (d : Nat) : Int := if d = 0 then -1 else if d = 1 then 5 else 6
theorem q5_cell (w : World) (t : TypeId) (d : Nat) (h : d < 3) : (w.alloc (.cells #[.int .i64 (-1), .int .i64 5, .int .i64 6] t)).cell? ⟨w.heap.size, d, none⟩ = some (.int .i64 (q5 d)) := by
  refine (World.cell?_alloc_mark w _ t (0, 0) d).trans ?_
  have e : d = 0 ∨ d = 1 ∨ d = 2 := by omega
  rcases e with rfl | rfl | rfl <;> rfl
theorem q5_range (d : Nat) : -1 ≤ q5 d ∧ q5 d ≤ 6 := by
  unfold q5
  by_cases h0 : d = 0
  · rw [if_pos h0]; omega
  · rw [if_neg h0]
    by_cases h1 : d = 1
    · rw [if_pos h1]; omega
    · rw [if_neg h1]; omega
theorem q5_get (d : Nat) (h : d < 3) : ([Value.int .i64 (-1), .int .i64 5, .int .i64 6] : List Value)[d]? = some (.int .i64 (q5 d)) := by
  have e : d = 0 ∨ d = 1 ∨ d = 2 := by omega
  rcases e with rfl | rfl | rfl <;> rfl
theorem step5_cell {R : Nat} {w w' : World} (h : Step R w w') {b o : Nat} {v : Value} (hb : b < w.heap.size) (hR : b ≠ R) (hc : w.cell? ⟨b, o, none⟩ = some v) : w'.cell? ⟨b, o, none⟩ = some v :=
  (World.cell?_of_block (h.block b hb (fun e => hR (by injection e)))).trans hc
theorem arr5_drew {R : Nat} {w w' : World} {t : TypeId} (hs : Step R (w.alloc (.cells #[.int .i64 (-1), .int .i64 5, .int .i64 6] t)).drew w') (hR : w.heap.size ≠ R) {d : Nat} (hd : d < 3) : w'.cell? ⟨w.heap.size, d, none⟩ = some (.int .i64 (q5 d)) :=
  step5_cell (Step.of_drew hs) (by simp) hR (q5_cell w t d hd)
theorem step5_over {R : Nat} {w w' : World} {o : Obj} (hs : Step R (w.alloc o).drew w') : Step R w w' := ((Step.refl R w).alloc o).trans (Step.of_drew hs)

/-- What is drawn. -/
def DrewD (w : World) (e : Ending) (w' : World) : Prop := ∃ (ps : List Pl) (g c n : Nat) (d : Int), e = .returned (.tuple #[.slice (some ⟨g, 0, none⟩) ps.length c, .int .i64 (n : Int), .int .i64 d]) ∧ HasP w w' ps g c ∧ n ≤ 6 ∧ -1 ≤ d ∧ d ≤ 6 ∧ Below w.heap.size w w'

set_option maxRecDepth 100000 in
set_option maxHeartbeats 4000000 in
/-- **DrawDepthCounts**. -/
theorem drawDepth_any (a : Option Addr) (len cap : Nat) (bs : List Int) (w : World) (h : IsBytes w a len bs) (hcap : len ≤ cap) (hl : len ≤ 1048600) :
    Calls Try.prog 15 #[.slice a len cap] w (DrewD w) := by
  have H := Lib.hid h; clear h
  go_enter Try.func15, Try.ntmps15
  go_wp2_with fail
  refine (open_any a len cap bs _ H.out hcap hl).mono ?_
  rintro e w1 ⟨rfl, hr, hb⟩
  have hw1 := hr.1
  have R1 := Lib.hid hr
  have B1 := Lib.hid hb
  clear hr hb
  go_wp2_with fail
  refine (l91Pairs_any w.heap.size 0 _ R1.out (by omega)).mono ?_
  rintro e w2 ⟨ps, g, c, p2, n, rfl, ho, hsm, hf, hl13, hn6, hr2, hs, hp2⟩
  have HO := Lib.hid (ho.mono B1.out.size)
  have B2 := Lib.hid (B1.out.trans (hs.below (Nat.le_refl _) (Nat.le_of_lt hw1)))
  have HS := Lib.hid hsm
  have HF := Lib.hid hf
  have R2 := Lib.hid hr2
  have hw2 : w.heap.size < w2.heap.size := hr2.1
  have hg2 : g ≠ w.heap.size := by have := (ho.lt g rfl).1; omega
  clear ho hs hsm hf hr2 R1 B1
  go_wp2_with fail
  refine (pick_any w.heap.size p2 16 _ R2.out (by omega) (by omega) (by omega)).mono ?_
  rintro e w3 ⟨d3, rfl, hd3, hr, hs⟩
  have hnot : Hid (∀ j, (Value.slice (some ⟨g, 0, none⟩) ps.length c).ownBlock = some j → j ≠ w.heap.size) := fun j e => by have e : some g = some j := e; injection e with e; omega
  have HO3 := Lib.hid (owns_not HO.out hs hnot.out)
  have B3 := Lib.hid (B2.out.trans (hs.below (Nat.le_refl _) (Nat.le_of_lt hw2)))
  have R3 := Lib.hid hr
  have hw3 : w.heap.size < w3.heap.size := hr.1
  clear hr hs HO B2 R2
  cases h0 : ((d3 : Int) == 0)
  · go_wp2_with fail
    refine (pick_any w.heap.size (p2 + 1) 6 _ R3.out (by omega) (by omega) (by omega)).mono ?_
    rintro e w4 ⟨d4, rfl, hd4, hr, hs⟩
    have B4 := Lib.hid (B3.out.trans (hs.below (Nat.le_refl _) (Nat.le_of_lt hw3)))
    have HO4 := Lib.hid (owns_not HO3.out hs hnot.out)
    clear hr hs
    go_wp2
    refine bodyPost_ret (v := .tuple #[.slice (some ⟨g, 0, none⟩) ps.length c, .int .i64 (n : Int), .int .i64 (d4 : Int)]) (by simp [results, Try.results15, go_sem]) rfl ?_
    exact ⟨ps, g, c, n, d4, rfl, ⟨HO4.out, HS.out, HF.out, hl13⟩, hn6, by omega, by omega, B4.out⟩
  · have hne : w3.heap.size ≠ w.heap.size := by omega
    go_wp2_with fail
    go_region_law (first
      | (go_simp; go_at_call 51; refine (pick_any w.heap.size (p2 + 1) 3 _ ?_ (by omega) (by omega) (by omega)).mono ?_; (first | exact R3.out | exact R3.out.below ((Below.refl _ w3).alloc (Nat.le_refl _) _).drew); rintro e w4 ⟨d4, rfl, hd4, hr4, hs4⟩; (first
          | (have hq := arr5_drew hs4 hne (show d4 < 3 by omega); have S4 := Lib.hid (step5_over hs4); clear hr4 hs4)
          | (have hq := q5_cell w4 3 d4 (show d4 < 3 by omega); have S4 := Lib.hid (Step.of_drew hs4); clear hr4 hs4))))
    all_goals
      have hqr := q5_range d4
      have B4 := Lib.hid (B3.out.trans (S4.out.below (Nat.le_refl _) (Nat.le_of_lt hw3)))
      have hB4 := B4.out.size
      have HO4 := Lib.hid (owns_not HO3.out S4.out hnot.out)
      clear hq
      go_wp2
      refine bodyPost_ret (v := .tuple #[.slice (some ⟨g, 0, none⟩) ps.length c, .int .i64 (n : Int), .int .i64 (q5 d4)]) (by simp [results, Try.results15, go_sem]) rfl ?_
      first
        | exact ⟨ps, g, c, n, q5 d4, rfl, ⟨HO4.out, HS.out, HF.out, hl13⟩, hn6, hqr.1, hqr.2, B4.out⟩
        | exact ⟨ps, g, c, n, q5 d4, rfl, ⟨HO4.out.alloc _, HS.out, HF.out, hl13⟩, hn6, hqr.1, hqr.2, B4.out.alloc hB4 _⟩

end Go.Proofs.Ytojfpnjnbpeniaa
