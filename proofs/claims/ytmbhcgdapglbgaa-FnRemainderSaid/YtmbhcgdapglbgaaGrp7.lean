/-
  spec.LotsOf: what it returns for every number of candidates and every seed, in memory of its own; it writes into no memory that was there.
  spec.SeatsNext, spec.SeatsDivisor and spec.SeatsCheck: contracts at all arguments. They write into no memory that was there.
  spec.SeatsDivisor: a contract at all arguments. It writes into no memory that was there.
-/
import Derived.Test.YtmbhcgdapglbgaaGrp3
import Derived.Test.YtmbhcgdapglbgaaGrp6
import Derived.Test.YtmbhcgdapglbgaaSeatS
namespace Go.Proofs.Ytmbhcgdapglbgaa
open Go.RowKit

/-- The blocks of two slices are not the same. -/
def Apart (v v' : Value) : Prop := ∀ j, v.ownBlock = some j → v'.ownBlock ≠ some j
theorem kept_apart {w w' : World} {base n size : Nat} {e : TypeId} {v u : Value} {xs : List Value} (h : w.ownsRow base e size v n xs) (hg : w.grownBy w' u.ownBlock) (ha : Apart u v) : w'.ownsRow base e size v n xs := by
  refine h.kept hg ?_
  cases hb : v.ownBlock with
  | none => exact .inl rfl
  | some j => right; intro e2; exact ha j e2.symm hb
theorem lotsRow_low {w : World} {base base' n size : Nat} {e : TypeId} {v : Value} {xs : List Value} (h : w.ownsRow base e size v n xs) (hb : base' ≤ base) : w.ownsRow base' e size v n xs := by
  refine ⟨h.1, ?_⟩
  rcases h.2 with hn | ⟨g, cap, cur, h1, h2, h3⟩
  · exact .inl hn
  · exact .inr ⟨g, cap, cur, h1, Nat.le_trans hb h2, h3⟩
theorem owned_at {w : World} {base n : Nat} {a : Option Addr} {cap : Nat} {xs : List Value} (h : w.ownsRow base 3 1 (.slice a n cap) n xs) (hn : 0 < n) : ∃ g, a = some ⟨g, 0, none⟩ ∧ g < w.heap.size ∧ n ≤ cap ∧ cap ≤ maxLen := by
  rcases h.2 with ⟨_, e0⟩ | ⟨g, c, cur, e, _, hg, h1, h2, _⟩
  · omega
  · injection e with e1 _ e3
    subst e3
    exact ⟨g, e1, (Array.getElem?_eq_some_iff.1 hg).1, h1, h2⟩
theorem erase_parts (rest : List Int) (k : Nat) : rest.take k ++ rest.drop (k + 1) = rest.eraseIdx k := (List.eraseIdx_eq_take_drop_succ rest k).symm

/-- The length of a slice's value. -/
def sliceLen : Value → Nat
  | .slice _ n _ => n
  | _ => 0

/-- What the drawing loop keeps: those that are left, the lots drawn, in two blocks of the call's own. -/
def LotInv (w : World) (k s : Nat) (sv rv lv : Value) (wr : World) : Prop := ∃ (sd : Nat) (rest out : List Int) (a : Option Addr) (cap : Nat) (a2 : Option Addr) (cap2 : Nat), sd ≤ 999 ∧ sv = .int .i64 (sd : Int) ∧ rv = .slice a rest.length cap ∧ lv = .slice a2 out.length cap2 ∧ rest.length ≤ 5 ∧ out.length + rest.length = k ∧
  Hid (out ++ lotR rest sd = lotsOf k s) ∧ Hid (wr.ownsRow w.heap.size 3 1 (.slice a rest.length cap) rest.length (rest.map (Value.int .i64))) ∧ Hid (wr.ownsRow w.heap.size 3 1 (.slice a2 out.length cap2) out.length (out.map (Value.int .i64))) ∧ Hid (Apart (.slice a2 out.length cap2) (.slice a rest.length cap)) ∧ Below w.heap.size w wr

set_option maxRecDepth 100000 in
set_option maxHeartbeats 4000000 in
/-- **spec.LotsOf**, at a number of candidates and a seed in range. -/
theorem specLotsOf_yes (n s : Nat) (w : World) (hn1 : 1 ≤ n) (hn5 : n ≤ 5) (hs : s ≤ 999) :
    Calls Try.prog 52 #[.int .i64 (n : Int), .int .i64 (s : Int)] w fun e w' => ∃ a cap, e = .returned (.tuple #[.slice a n cap, .bool true]) ∧ w'.ownsRow w.heap.size 3 1 (.slice a n cap) n ((lotsOf n s).map (Value.int .i64)) ∧ Below w.heap.size w w' := by
  obtain ⟨i0, hi, hz0, hz1, hz2⟩ := info_parts int_info
  have H1 := Lib.hid (inB_yes (x := (n : Int)) (lo := 1) (hi := 5) (by omega) (by omega))
  have H2 := Lib.hid (inB_yes (x := (s : Int)) (lo := 0) (hi := 999) (by omega) (by omega))
  have HE0 := Lib.hid (World.ownsRow_lit (base := w.heap.size) (e := 3) (size := 1) w #[] 0 (Nat.le_refl _) (by unfold maxLen; omega) rfl)
  have HB0 : Below w.heap.size w (w.alloc (.cells #[] 3)) := (Below.refl _ w).alloc (Nat.le_refl _) _
  go_enter Try.func52, Try.ntmps52
  go_wp2_with fail
  refine (l6In_any _ _ _ _).mono ?_
  rintro e w' ⟨he, rfl⟩
  rw [H1.out] at he
  subst he
  go_wp2_with fail
  refine (l6In_any _ _ _ _).mono ?_
  rintro e w' ⟨he, rfl⟩
  rw [H2.out] at he
  subst he
  go_wp2
  go_loopw [6, 7] (fun rv iv wr => ∃ (k : Nat) (a : Option Addr) (cap : Nat), k ≤ n ∧ iv = .int .i64 (k : Int) ∧ rv = .slice a k cap ∧ Hid (wr.ownsRow w.heap.size 3 1 (.slice a k cap) k ((fromZero k).map (Value.int .i64))) ∧ Below w.heap.size w wr) (fun _ iv _ => n - (intOf iv).toNat)
  case atStart => exact ⟨0, _, _, Nat.zero_le _, rfl, rfl, HE0.out, HB0⟩
  case round =>
    obtain ⟨k, a, cap, hk, rfl, rfl, ho, hB⟩ := hrel
    by_cases hlt : k < n
    · go_wp2_with (at_builtin; refine wpList_append_own _ rfl _ _ 23 rfl w.heap.size 3 i0 (.int .i64 0) 1 8 Try.underlying23 hi hz0 hz1 hz2 rfl (by decide) _ _ _ rfl (ho.out.alloc _) ⟨wr.heap.size, 0, none⟩ 1 1 [.int .i64 (k : Int)] rfl rfl (cell_one_new _ _ _) (by simp [Value.oneCell']) (by unfold maxLen; omega) (by omega) (by have := hB.size; simp; omega) ?_; intro v' w4 hown' hgrow _; obtain ⟨a4, cap4, rfl⟩ := owns_slice hown')
      have hrow : ∀ j, (Value.slice a k cap).ownBlock = some j → w.heap.size ≤ j := fun j ej => (ho.out.lt j ej).1
      have hB4 := (hB.alloc hB.size (.cells #[.int .i64 (k : Int)] 3)).grown hgrow (by have := hB.size; simp; omega) (fun j e => hrow j e)
      have HO4 : Hid (w4.ownsRow w.heap.size 3 1 (.slice a4 (k + 1) cap4) (k + 1) ((fromZero (k + 1)).map (Value.int .i64))) := by
        unfold Hid; rw [fromZero_succ, List.map_append]; exact hown'
      clear hown' hgrow hrow
      go_wp2
      go_roundw
      case rel => exact ⟨k + 1, a4, cap4, by omega, by go_num, rfl, HO4.out, hB4⟩
      case measure => simp [intOf]; omega
    · obtain rfl : k = n := by omega
      have HR : Hid ((fromZero k).length = k) := fromZero_length k
      have HRE := Lib.hid (ho.out.alloc (.cells #[] 3))
      have hlt0 : Hid (∀ j, (Value.slice a k cap).ownBlock = some j → j < wr.heap.size) := fun j ej => (ho.out.lt j ej).2
      have hsz := hB.size
      have HOE := Lib.hid (World.ownsRow_lit (base := w.heap.size) (e := 3) (size := 1) wr #[] 0 hsz (by unfold maxLen; omega) rfl)
      have hB1 := hB.alloc hsz (.cells #[] 3)
      go_wp2
      go_loopw [1, 6, 8, 9] (fun sv rv lv kv wr => LotInv w k s sv rv lv wr) (fun _ rv _ _ _ => sliceLen rv)
      case atStart =>
        unfold LotInv
        refine ⟨s, fromZero k, [], a, cap, _, _, hs, rfl, by rw [HR.out], rfl, by rw [HR.out]; exact hn5, by rw [HR.out]; simp, ?_, ?_, HOE.out, ?_, hB1⟩
        · unfold Hid; rw [lotR_all]; rfl
        · unfold Hid; rw [HR.out]; exact HRE.out
        · intro j h1 h2
          have e1 : j < wr.heap.size := hlt0.out j (by rw [HR.out] at h2; exact h2)
          have h1 : some wr.heap.size = some j := h1
          injection h1 with h1
          omega
      case round =>
        clear HR HRE HOE hlt0 hB1 hsz ho hB
        obtain ⟨sd, rest, out, a, cap, a2, cap2, hsd, rfl, rfl, rfl, hr5, hsum, hall, ho, ho2, hap, hB⟩ := hrel
        by_cases hlt : 0 < rest.length
        · obtain ⟨g, rfl, hgw, hcap, hmx⟩ := owned_at ho.out hlt
          have hgt : decide (0 < (rest.length : Int)) = true := decide_eq_true (by omega)
          have hkz : ((rest.length : Int) == 0) = false := beq_eq_false_iff_ne.2 (by omega)
          obtain ⟨q, hqe⟩ : ∃ q, sd % rest.length = q := ⟨_, rfl⟩
          obtain ⟨d, hde⟩ : ∃ d, sd / rest.length = d := ⟨_, rfl⟩
          have hqk : q < rest.length := by rw [← hqe]; exact Nat.mod_lt sd hlt
          have hd9 : d ≤ sd := by rw [← hde]; exact Nat.div_le_self sd _
          have hq : ((sd : Int) % (rest.length : Int)) = (q : Int) := by rw [← hqe]; exact (Int.natCast_emod sd rest.length).symm
          have hdv : ((sd : Int) / (rest.length : Int)) = (d : Int) := by rw [← hde]; exact (Int.natCast_ediv sd rest.length).symm
          have HST := Lib.hid (lotR_step (rest := rest) rfl (by omega) sd)
          rw [hqe, hde] at HST
          have HEL := Lib.hid (erase_length (rest := rest) rfl hqk)
          have hcz := ho.out.cellAt q (by omega)
          obtain ⟨z, hz⟩ : ∃ z, rest[q]?.getD 0 = z := ⟨_, rfl⟩
          have HZ := Lib.hid hz
          have hcell : wr.cell? ⟨g, q, none⟩ = some (.int .i64 z) := by
            rw [hcz, ← hz]; simp [hqk]
          clear hcz hz hqe hde
          go_wp2_with (at_builtin; refine wpList_append_own _ rfl _ _ 23 rfl w.heap.size 3 i0 (.int .i64 0) 1 8 Try.underlying23 hi hz0 hz1 hz2 rfl (by decide) _ _ _ rfl (ho2.out.alloc _) ⟨wr.heap.size, 0, none⟩ 1 1 [.int .i64 z] rfl rfl (cell_one_new _ _ _) (by simp [Value.oneCell']) (by unfold maxLen; omega) (by omega) (by have := hB.size; simp; omega) ?_; intro v' w4 hown' hgrow _; obtain ⟨a4, cap4, rfl⟩ := owns_slice hown')
          have hrow : ∀ j, (Value.slice a2 out.length cap2).ownBlock = some j → w.heap.size ≤ j := fun j ej => (ho2.out.lt j ej).1
          have hB4 := (hB.alloc hB.size (.cells #[.int .i64 z] 3)).grown hgrow (by have := hB.size; simp; omega) (fun j e => hrow j e)
          have O3 : Hid (w4.ownsRow w.heap.size 3 1 (.slice (some ⟨g, 0, none⟩) rest.length cap) rest.length (rest.map (Value.int .i64))) := kept_apart (ho.out.alloc _) hgrow hap.out
          have HO4 : Hid (w4.ownsRow w.heap.size 3 1 (.slice a4 (out.length + 1) cap4) (out.length + 1) ((out ++ [z]).map (Value.int .i64))) := by
            unfold Hid; rw [List.map_append]; exact hown'
          have hg4 : g < w4.heap.size := (O3.out.lt g rfl).2
          have hcs : Hid (∀ j, j < rest.length → w4.cell? ⟨g, 0 + j, none⟩ = some (.int .i64 (rest[j]?.getD 0))) := fun j hj => by
            rw [Nat.zero_add, O3.out.cellAt j (by omega)]; simp [hj]
          have hE : Hid ((w4.alloc (.cells #[] 3)).drew.ownsRow w4.heap.size 3 1 (.slice (some ⟨w4.heap.size, 0, none⟩) 0 0) 0 []) := (World.ownsRow_lit (base := w4.heap.size) (e := 3) (size := 1) w4 #[] 0 (Nat.le_refl _) (by unfold maxLen; omega) rfl).drew
          clear hown' hgrow hrow ho ho2 hap hB hcell
          go_wp2
          have hqc : q ≤ cap := by omega
          have hq1 : q + 1 ≤ rest.length := by omega
          have hk1i : (q : Int) + 1 ≤ (rest.length : Int) := by omega
          have hk0 : (0 : Int) ≤ (q : Int) + 1 := by omega
          have hzci : (rest.length : Int) ≤ (cap : Int) := by omega
          have L1 : Hid (((rest.take q).map (Value.int .i64)).length = q * 1) := by unfold Hid; simp; omega
          have L2 : Hid (((rest.drop (q + 1)).map (Value.int .i64)).length = (rest.length - (q + 1)) * 1) := by unfold Hid; simp
          have P1 : Hid (∀ j u, ((rest.take q).map (Value.int .i64))[j]? = some u → (w4.alloc (.cells #[] 3)).drew.cell? ((⟨g, 0, none⟩ : Addr).add j) = some u) :=
            piece_cells (zs := rest) (len := rest.length) (off := 0) rfl (fun j hj => (((Below.refl w4.heap.size w4).alloc (Nat.le_refl _) _).drew.cell (p := ⟨g, 0 + j, none⟩) hg4).trans (hcs.out j hj)) 0 q 0 (by omega) rfl
          have M1 : 0 + q ≤ maxLen := by unfold maxLen; omega
          have N1 : (0 + q) * 8 ≤ 140737488355328 := by omega
          have S1 : w4.heap.size ≤ (w4.alloc (.cells #[] 3)).drew.heap.size := by simp
          have M2 : q + (rest.length - (q + 1)) ≤ maxLen := by unfold maxLen; omega
          have N2 : (q + (rest.length - (q + 1))) * 8 ≤ 140737488355328 := by omega
          have M2e : q + 0 ≤ maxLen := by unfold maxLen; omega
          have N2e : (q + 0) * 8 ≤ 140737488355328 := by omega
          by_cases hck : cap = q + 1
          · subst hck
            have hzl : rest.length ≤ q + 1 := by omega
            have L2e : Hid (((rest.drop (q + 1)).map (Value.int .i64)).length = 0 * 1) := by unfold Hid; simp; omega
            have PE := Lib.hid (rest_none hzl)
            have hkci : (q : Int) ≤ (q : Int) + 1 := by omega
            have hkcc : (q : Int) + 1 ≤ (q : Int) + 1 := by omega
            have hzk : (rest.length : Int) ≤ (q : Int) + 1 := by omega
            have hw1 : IntKind.i64.wrap ((q : Int) + 1) = (q : Int) + 1 := IntWalk.i64_in _ (by omega)
            have ht1 : ((q : Int) + 1).toNat = q + 1 := by omega
            go_region_law (first
              | (refine step_append_own (by rfl) _ _ _ (by rfl) w4.heap.size 3 i0 (.int .i64 0) 1 8 Try.underlying23 hi hz0 hz1 hz2 rfl Nat.one_pos (.slice (some ⟨w4.heap.size, 0, none⟩) 0 0) 0 [] (by rfl) hE.out ⟨g, 0, none⟩ q _ ((rest.take q).map (Value.int .i64)) (by rfl) L1.out P1.out (ints_one _) M1 N1 S1 ?_; intro v5 w5 hown5 hgrow5 _; simp only [Nat.zero_add, List.nil_append] at hown5; obtain ⟨a5, c5, rfl⟩ := owns_slice hown5; have C5 := Lib.hid (kept_cells hg4 hgrow5 hcs.out); have B5 := Lib.hid (kept_below hgrow5); have O5 := Lib.hid hown5; clear hown5 hgrow5)
              | (refine step_append_own (by rfl) _ _ _ (by rfl) w4.heap.size 3 i0 (.int .i64 0) 1 8 Try.underlying23 hi hz0 hz1 hz2 rfl Nat.one_pos (.slice a5 q c5) q ((rest.take q).map (Value.int .i64)) (by rfl) O5.out ⟨g, 0, none⟩ 0 _ ((rest.drop (q + 1)).map (Value.int .i64)) (by rfl) L2e.out (fun j u h => (PE.out j u h).elim) (ints_one _) M2e N2e B5.out.size ?_; intro v6 w6 hown6 hgrow6 _; obtain ⟨a6, c6, rfl⟩ := owns_slice hown6; have B6 := Lib.hid (B5.out.grown hgrow6 B5.out.size (fun j ej => (O5.out.lt j ej).1)); have X6 := Lib.hid hown6; clear hown6 hgrow6))
            all_goals
              clear hw1 ht1
              have O6 := Lib.hid (lotsRow_low (owns_under HO4.out B6.out) (Nat.le_refl _))
              have hB6 := hB4.trans (B6.out.mono hB4.size)
              have hap6 : Hid (Apart (.slice a4 (out.length + 1) cap4) (.slice a6 (q + 0) c6)) := by
                intro j h1 h2
                have e1 := (HO4.out.lt j h1).2
                have e2 := (X6.out.lt j h2).1
                omega
              have X7 := Lib.hid (lotsRow_low X6.out hB4.size)
              have hinv : LotInv w k s (.int .i64 (d : Int)) (.slice a6 (q) c6) (.slice a4 (out.length + 1) cap4) w6 := by
                unfold LotInv
                refine ⟨d, rest.eraseIdx q, out ++ [z], a6, c6, a4, cap4, by omega, rfl, ?g1, ?g2, ?g3, ?g4, ?g5, ?g6, ?g7, ?g8, hB6⟩
                case g1 => rw [HEL.out, show rest.length - 1 = q by omega]
                case g2 => rw [List.length_append]; rfl
                case g3 => rw [HEL.out]; omega
                case g4 => rw [HEL.out, List.length_append, List.length_singleton]; omega
                case g5 => unfold Hid; rw [← hall.out, HST.out, HZ.out, List.append_assoc]; rfl
                case g6 => unfold Hid; rw [HEL.out, ← erase_parts, List.map_append]; have := X7.out; rwa [show rest.length - 1 = q + 0 by omega]
                case g7 => unfold Hid; rw [List.length_append]; exact O6.out
                case g8 => unfold Hid; rw [HEL.out, List.length_append, show rest.length - 1 = q + 0 by omega]; exact hap6.out
              have HINV := Lib.hid hinv
              have hms : q < rest.length := by omega
              clear hinv X6 X7 hap6 O6 B6
              go_wp2
              go_roundw
              case rel => exact ⟨_, _, _, HINV.out, rfl, rfl, rfl⟩
              case measure => simpa [sliceLen] using hms
          · have hkci : (q : Int) ≤ (cap : Int) := by omega
            have hkcc : (q : Int) + 1 ≤ (cap : Int) := by omega
            have hck2 : ¬ cap = q := by omega
            have hw1 : IntKind.i64.wrap ((q : Int) + 1) = (q : Int) + 1 := IntWalk.i64_in _ (by omega)
            have ht1 : ((q : Int) + 1).toNat = q + 1 := by omega
            go_region_law (first
              | (refine step_append_own (by rfl) _ _ _ (by rfl) w4.heap.size 3 i0 (.int .i64 0) 1 8 Try.underlying23 hi hz0 hz1 hz2 rfl Nat.one_pos (.slice (some ⟨w4.heap.size, 0, none⟩) 0 0) 0 [] (by rfl) hE.out ⟨g, 0, none⟩ q _ ((rest.take q).map (Value.int .i64)) (by rfl) L1.out P1.out (ints_one _) M1 N1 S1 ?_; intro v5 w5 hown5 hgrow5 _; simp only [Nat.zero_add, List.nil_append] at hown5; obtain ⟨a5, c5, rfl⟩ := owns_slice hown5; have C5 := Lib.hid (kept_cells hg4 hgrow5 hcs.out); have B5 := Lib.hid (kept_below hgrow5); have O5 := Lib.hid hown5; clear hown5 hgrow5)
              | (refine step_append_own (by rfl) _ _ _ (by rfl) w4.heap.size 3 i0 (.int .i64 0) 1 8 Try.underlying23 hi hz0 hz1 hz2 rfl Nat.one_pos (.slice a5 q c5) q ((rest.take q).map (Value.int .i64)) (by rfl) O5.out ⟨g, q + 1, none⟩ (rest.length - (q + 1)) _ ((rest.drop (q + 1)).map (Value.int .i64)) (by rfl) L2.out (piece_rest rfl C5.out (q + 1) (q + 1) hq1 (Nat.zero_add _).symm) (ints_one _) M2 N2 B5.out.size ?_; intro v6 w6 hown6 hgrow6 _; obtain ⟨a6, c6, rfl⟩ := owns_slice hown6; have B6 := Lib.hid (B5.out.grown hgrow6 B5.out.size (fun j ej => (O5.out.lt j ej).1)); have X6 := Lib.hid hown6; clear hown6 hgrow6))
            all_goals
              clear hw1 ht1
              obtain ⟨m, hm⟩ : ∃ m, q + (rest.length - (q + 1)) = m := ⟨_, rfl⟩
              rw [hm] at X6 ⊢
              have hmr : rest.length - 1 = m := by omega
              have hms : m < rest.length := by omega
              have O6 := Lib.hid (lotsRow_low (owns_under HO4.out B6.out) (Nat.le_refl _))
              have hB6 := hB4.trans (B6.out.mono hB4.size)
              have hap6 : Hid (Apart (.slice a4 (out.length + 1) cap4) (.slice a6 m c6)) := by
                intro j h1 h2
                have e1 := (HO4.out.lt j h1).2
                have e2 := (X6.out.lt j h2).1
                omega
              have X7 := Lib.hid (lotsRow_low X6.out hB4.size)
              have hinv : LotInv w k s (.int .i64 (d : Int)) (.slice a6 m c6) (.slice a4 (out.length + 1) cap4) w6 := by
                unfold LotInv
                refine ⟨d, rest.eraseIdx q, out ++ [z], a6, c6, a4, cap4, by omega, rfl, ?g1, ?g2, ?g3, ?g4, ?g5, ?g6, ?g7, ?g8, hB6⟩
                case g1 => rw [HEL.out, hmr]
                case g2 => rw [List.length_append]; rfl
                case g3 => rw [HEL.out]; omega
                case g4 => rw [HEL.out, List.length_append, List.length_singleton]; omega
                case g5 => unfold Hid; rw [← hall.out, HST.out, HZ.out, List.append_assoc]; rfl
                case g6 => unfold Hid; rw [HEL.out, ← erase_parts, List.map_append]; have := X7.out; rwa [hmr]
                case g7 => unfold Hid; rw [List.length_append]; exact O6.out
                case g8 => unfold Hid; rw [HEL.out, List.length_append, hmr]; exact hap6.out
              have HINV := Lib.hid hinv
              clear hinv X6 X7 hap6 O6 B6 hmr hm hck2 hkci hkcc hck hzci hk1i hk0 M1 N1 S1 M2 N2 M2e N2e L1 L2 P1 hqc hq1
              simp only [List.getElem_toArray, List.getElem_cons_succ, List.getElem_cons_zero, Act.put, List.setIfInBounds_toArray, List.set_cons_succ, List.set_cons_zero]
              go_wp2
              go_roundw
              case rel => exact HINV.out
              case measure => simpa [sliceLen] using hms
        · have hr0 : rest = [] := List.length_eq_zero_iff.1 (by omega)
          subst hr0
          have HL : Hid (out = lotsOf k s) := by
            have h2 := hall.out
            rw [lotR_nil, List.append_nil] at h2
            exact h2
          have hok : out.length = k := by simpa using hsum
          go_wp2
          go_ret2
          refine ⟨a2, cap2, by first | rfl | (rw [← hok]; rfl), ?_, hB⟩
          rw [← HL.out, ← hok]
          exact ho2.out

set_option maxHeartbeats 1000000 in
/-- **spec.LotsOf**, at arguments out of range. -/
theorem specLotsOf_no (n s : Int) (w : World) (h : okLots n s = false) :
    Calls Try.prog 52 #[.int .i64 n, .int .i64 s] w fun e w' => e = .returned (.tuple #[.slice (some ⟨w.heap.size, 0, none⟩) 0 0, .bool false]) ∧ w' = w.alloc (.cells #[] 3) := by
  cases hn : inB n 1 5
  · have HN := Lib.hid hn; clear hn h
    go_enter Try.func52, Try.ntmps52
    go_wp2_with fail
    refine (l6In_any _ _ _ _).mono ?_
    rintro e w' ⟨he, rfl⟩
    rw [HN.out] at he
    subst he
    go_wp2
    go_ret2
    exact ⟨rfl, rfl⟩
  · have hs : inB s 0 999 = false := by rw [okLots, hn, Bool.true_and] at h; exact h
    have HN := Lib.hid hn
    have HS := Lib.hid hs; clear hn hs h
    go_enter Try.func52, Try.ntmps52
    go_wp2_with fail
    refine (l6In_any _ _ _ _).mono ?_
    rintro e w' ⟨he, rfl⟩
    rw [HN.out] at he
    subst he
    go_wp2_with fail
    refine (l6In_any _ _ _ _).mono ?_
    rintro e w' ⟨he, rfl⟩
    rw [HS.out] at he
    subst he
    go_wp2
    go_ret2
    exact ⟨rfl, rfl⟩

/-- **spec.LotsOf**. -/
theorem specLotsOf_any (n s : Int) (w : World) :
    Calls Try.prog 52 #[.int .i64 n, .int .i64 s] w (Told w (lotsI n s) (okLots n s)) := by
  cases h : okLots n s
  · refine (specLotsOf_no n s w h).mono ?_
    rintro e w' ⟨rfl, rfl⟩
    rw [lotsI_no h]
    exact ⟨_, 0, rfl, World.ownsRow_lit w #[] 0 (Nat.le_refl _) (by unfold maxLen; omega) rfl, (Below.refl _ w).alloc (Nat.le_refl _) _⟩
  · have hh := okLots_of h
    obtain ⟨m, rfl⟩ := Int.eq_ofNat_of_zero_le (show 0 ≤ n by omega)
    obtain ⟨q, rfl⟩ := Int.eq_ofNat_of_zero_le (show 0 ≤ s by omega)
    refine (specLotsOf_yes m q w (by omega) (by omega) (by omega)).mono ?_
    rintro e w' ⟨a, cap, rfl, ho, hb⟩
    have hl : (lotsI (m : Int) (q : Int)).length = m := by rw [lotsI_yes h, lotsOf_length, Int.toNat_natCast]
    refine ⟨a, cap, by rw [hl], ?_, hb⟩
    rw [hl, lotsI_yes h]; exact ho

/-- **spec.LotsOf**, its answer named. -/
theorem specLotsOf_as (n s : Int) (pl : List Int) (ok : Bool) (w : World) (h1 : lotsI n s = pl) (h2 : okLots n s = ok) :
    Calls Try.prog 52 #[.int .i64 n, .int .i64 s] w (Told w pl ok) := by
  subst h1; subst h2; exact specLotsOf_any n s w

end Go.Proofs.Ytmbhcgdapglbgaa

namespace Go.Proofs.Ytmbhcgdapglbgaa
open Go.RowKit

attribute [local go_sem] Oper.semAt_some

theorem nextI_no {vs gs : List Int} {m : Int} {lots : List Int} (h : okN vs gs m lots = false) : nextI vs gs m lots = -1 := by rw [nextI, h]; rfl
theorem divL_no {vs : List Int} {s m : Int} {lots : List Int} (h : okD vs s m lots = false) : divL vs s m lots = [] := by rw [divL, h]; rfl

end Go.Proofs.Ytmbhcgdapglbgaa

namespace Go.Proofs.Ytmbhcgdapglbgaa
open Go.RowKit

attribute [local go_sem] Oper.semAt_some

theorem owns_some {w : World} {base n size : Nat} {e : TypeId} {v : Value} {xs : List Value} (h : w.ownsRow base e size v n xs) (hn : 0 < n) : ∃ g c, v = .slice (some ⟨g, 0, none⟩) n c := by
  rcases h.2 with ⟨e1, e0⟩ | ⟨g, c, cur, e1, _⟩
  · have := h.1; subst e0; simp at this; omega
  · exact ⟨g, c, e1⟩
theorem owns_int {w : World} {base n g c y : Nat} {gl : List Int} {z : Int} (h : w.ownsRow base 3 1 (.slice (some ⟨g, 0, none⟩) n c) n (gl.map (Value.int .i64))) (hl : gl.length = n) (hy : y < n) (hz : gl[y]?.getD 0 = z) : w.cell? ⟨g, y, none⟩ = some (.int .i64 z) := by
  rw [h.cellAt y (by omega), ← hz]
  simp [show y < gl.length by omega]
theorem totals_of {vs : List Int} {m : Int} {lots : List Int} {k : Nat} (hm : methB m = true) (hl : lotsB lots = true) (hn : lots.length = vs.length) (hk : k ≤ 20) : toB (seatsL vs m lots k) 20 vs.length = true := by
  obtain ⟨h1, h2, -⟩ := (giveB_iff _ _).1 (seats_are hm hl hn k hk).1
  rw [h2] at h1; exact h1

set_option maxRecDepth 100000 in
set_option maxHeartbeats 8000000 in
/-- **spec.SeatsDivisor**, at valid arguments. -/
theorem specSeats_yes (a : Option Addr) (n cap : Nat) (vs : List Int) (s : Nat) (m : Int) (al : Option Addr) (cl : Nat) (lots : List Int) (r : List Int) (w : World) (h : IsInts w a n cap vs) (hl : IsInts w al n cl lots)
    (hv1 : voteB vs = true) (hs : s ≤ 20) (hm : methB m = true) (hlb : lotsB lots = true) (hr : seatsL vs m lots s = r) :
    Calls Try.prog 59 #[.slice a n cap, .int .i64 (s : Int), .int .i64 m, .slice al n cl] w (Told w r true) := by
  obtain ⟨i0, hi, hz0, hz1, hz2⟩ := info_parts int_info
  have hnv := h.1
  have hnl := hl.1
  have hn5 : n ≤ 5 := by have := (lotsB_len hlb).2; omega
  have hn1 : 1 ≤ n := by have := (lotsB_len hlb).1; omega
  have HI := Lib.hid h
  have HL := Lib.hid hl
  have V1 := Lib.hid hv1
  have HM := Lib.hid hm
  have HLB := Lib.hid hlb
  have HEQ : Hid (lots.length = vs.length) := by unfold Hid; omega
  have HNV := Lib.hid hnv
  have HNL := Lib.hid hnl
  obtain ⟨⟨x1, -, -⟩, -⟩ := (voteB_iff vs).1 hv1
  rw [hnv] at x1
  have X1 := Lib.hid x1
  have HS := Lib.hid (inB_yes (x := (s : Int)) (lo := 0) (hi := 20) (by omega) (by omega))
  have hne : ((n : Int) != (n : Int)) = false := by simp
  have HR := Lib.hid hr
  obtain ⟨G, hG⟩ : ∃ G, w.heap.size = G := ⟨_, rfl⟩
  have HG := Lib.hid hG
  clear h hl hv1 hm hlb hnv hnl x1 hr
  go_enter Try.func59, Try.ntmps59
  go_wp2_with fail
  refine (specVotes_as _ _ _ vs true _ HI.out V1.out).mono ?_
  rintro e w1 ⟨rfl, rfl⟩
  go_wp2_with fail
  refine (l6In_any _ _ _ _).mono ?_
  rintro e w' ⟨he, rfl⟩
  rw [HS.out] at he
  subst he
  go_wp2_with fail
  refine (specMeth_as m true _ HM.out).mono ?_
  rintro e w1 ⟨rfl, rfl⟩
  go_wp2_with fail
  refine (specLots_as _ _ _ lots true _ HL.out HLB.out).mono ?_
  rintro e w1 ⟨rfl, hd⟩
  have hsz : G ≤ w1.heap.size := by rw [← hG]; exact (hd.below w.heap.size).size
  have HB1 : Hid (Below G w w1) := hd.below _
  have HI1 := Lib.hid (HI.out.dr hd)
  have HL1 := Lib.hid (HL.out.dr hd)
  clear hd
  go_wp2_with (at_make; refine wpList_make_full _ rfl _ _ 23 rfl G 3 i0 (.int .i64 0) 1 Try.underlying23 hi hz0 hz1 .i64 .i64 _ _ n rfl rfl rfl rfl (by rw [hz2]; omega) (by unfold maxLen; omega) hsz ?_; intro w3 hown hgrow)
  have HB3 : Hid (Below G w w3) := HB1.out.grown hgrow hsz (fun k e => by cases e)
  obtain ⟨g3, c3, e3⟩ := owns_some hown (by omega)
  injection e3 with e3a _ e3b
  injection e3a with e3a
  injection e3a with e3c _ _
  subst e3b
  have O3 : Hid (w3.ownsRow G 3 1 (.slice (some ⟨w1.heap.size, 0, none⟩) n n) n ((seatsL vs m lots 0).map (Value.int .i64))) := by
    unfold Hid; show w3.ownsRow G _ 1 _ n ((List.replicate vs.length 0).map _); rw [HNV.out, ← zeros_made]; exact hown
  clear hown hgrow e3c
  go_wp2
  go_loopw [10, 11, 12] (fun ov iv _ wr => ∃ (k g c : Nat), k ≤ s ∧ iv = .int .i64 (k : Int) ∧ ov = .slice (some ⟨g, 0, none⟩) n c ∧ Hid (wr.ownsRow G 3 1 (.slice (some ⟨g, 0, none⟩) n c) n ((seatsL vs m lots k).map (Value.int .i64))) ∧ Hid (Below G w wr)) (fun _ iv _ _ => s - (intOf iv).toNat)
  case atStart => exact ⟨0, _, _, Nat.zero_le _, rfl, rfl, O3.out, HB3⟩
  case round =>
    clear O3 HB3 HB1 hsz
    obtain ⟨k, g, c, hk, rfl, rfl, hO, hB⟩ := hrel
    have hBw : Below w.heap.size w wr := HG.out.symm ▸ hB.out
    by_cases hlt : k < s
    · have HT := Lib.hid (totals_of HM.out HLB.out HEQ.out (show k ≤ 20 by omega))
      rw [HNV.out] at HT
      have IG := Lib.hid (IsInts.of_owned hO.out (by omega))
      have HRG := next_in (vs := vs) (gs := seatsL vs m lots k) HM.out HLB.out (HEQ.out.trans HNV.out) (by rw [seatsL_length, HNV.out]; exact HT.out)
      obtain ⟨x, hx⟩ : ∃ x, nextL (seV vs) (seV (seatsL vs m lots k)) m lots = x := ⟨_, rfl⟩
      rw [hx] at HRG
      have HSU : Hid (seatsL vs m lots (k + 1) = (seatsL vs m lots k).set x.toNat (seV (seatsL vs m lots k) x + 1)) := by rw [Hid, seatsL_succ, hx]
      obtain ⟨y, rfl⟩ := Int.eq_ofNat_of_zero_le HRG.1
      rw [Int.toNat_natCast, seV_nat] at HSU
      have hyn : y < n := by omega
      obtain ⟨gl, hgl⟩ : ∃ gl, seatsL vs m lots k = gl := ⟨_, rfl⟩
      have hgll : gl.length = n := by rw [← hgl, seatsL_length, HNV.out]
      have HX := Lib.hid hx
      rw [hgl] at HSU HT IG HX hO
      have bz := toB_at HT.out hyn
      obtain ⟨z, hz⟩ : ∃ z, gl[y]?.getD 0 = z := ⟨_, rfl⟩
      rw [hz] at bz HSU
      have HZ := Lib.hid hz
      have HGL := Lib.hid hgll
      clear hz hgl hx HRG hgll
      go_wp2_with fail
      refine (specNxt_as _ n _ vs _ _ gl m _ _ lots (y : Int) _ (HI.out.below hBw) IG.out (HL.out.below hBw) X1.out HT.out HM.out HLB.out HX.out).mono ?_
      rintro e w2 ⟨rfl, hd⟩
      have hB2 : Hid (Below G w w2) := hG ▸ (hBw.trans (hd.below _))
      have hO2 := Lib.hid (owns_under hO.out (hd.below _))
      have hsz2 : G ≤ w2.heap.size := by have := hB2.out.size; omega
      have hg2 : g < w2.heap.size := (hO2.out.lt g rfl).2
      have L1 : Hid ((gl.map (Value.int .i64)).length = n * 1) := by unfold Hid; rw [List.length_map, HGL.out]; omega
      have P1 : Hid (∀ j u, (gl.map (Value.int .i64))[j]? = some u → (w2.alloc (.cells #[] 3)).cell? ((⟨g, 0, none⟩ : Addr).add j) = some u) := by
        have := piece_rest (w := w2.alloc (.cells #[] 3)) (b := g) (off := 0) (len := n) (zs := gl) HGL.out (fun j hj => (((Below.refl w2.heap.size w2).alloc (Nat.le_refl _) _).cell (p := ⟨g, 0 + j, none⟩) hg2).trans (by rw [Nat.zero_add, hO2.out.cellAt j (by omega)]; simp [show j < gl.length by rw [HGL.out]; exact hj])) 0 0 (Nat.zero_le _) rfl
        rw [List.drop_zero] at this
        exact this
      have hE := Lib.hid (World.ownsRow_lit (base := G) (e := 3) (size := 1) w2 #[] 0 hsz2 (by unfold maxLen; omega) rfl)
      have hyc : (y : Int) < (n : Int) := by omega
      have M1 : 0 + n ≤ maxLen := by unfold maxLen; omega
      have N1 : (0 + n) * 8 ≤ 140737488355328 := by omega
      have S1 : G ≤ (w2.alloc (.cells #[] 3)).heap.size := by simp; omega
      clear hd hO hB hBw
      go_wp2_with (at_builtin; refine wpList_append_own _ rfl _ _ 23 rfl G 3 i0 (.int .i64 0) 1 8 Try.underlying23 hi hz0 hz1 hz2 rfl (by decide) _ _ _ rfl hE.out ⟨g, 0, none⟩ n c (gl.map (Value.int .i64)) rfl L1.out P1.out (ints_one _) M1 N1 S1 ?_; intro v' w4 hown' hgrow _; simp only [Nat.zero_add, List.nil_append] at hown'; obtain ⟨g4, c4, rfl⟩ := owns_some hown' hn1; have q0 := owns_int hown' HGL.out hyn HZ.out; have f0 : w4.frozen? ⟨g4, y, none⟩ = false := hown'.frozenAt y)
      have HB4 : Hid (Below G w w4) := (hB2.out.alloc hsz2 (.cells #[] 3)).grown hgrow S1 (fun j e => by
        have e : some w2.heap.size = some j := e
        injection e with e
        omega)
      have HO4 := Lib.hid hown'
      clear hown' hgrow L1 P1 hE M1 N1 S1
      have HST := Lib.hid (HO4.out.stored y (.int .i64 (z + 1)))
      have hg4 : G ≤ g4 := (HO4.out.lt g4 rfl).1
      have HO5 : Hid ((w4.setCell ⟨g4, y, none⟩ (.int .i64 (z + 1))).ownsRow G 3 1 (.slice (some ⟨g4, 0, none⟩) n c4) n ((seatsL vs m lots (k + 1)).map (Value.int .i64))) := by
        unfold Hid; rw [HSU.out, ← map_set_int]; exact HST.out.1
      have HB5 : Hid (Below G w (w4.setCell ⟨g4, y, none⟩ (.int .i64 (z + 1)))) := HB4.out.grown HST.out.2 (by have := HB4.out.size; omega) (fun j e => by cases e; exact hg4)
      clear HST HB4 HSU
      go_wp2
      go_roundw
      case rel => exact ⟨k + 1, g4, c4, by omega, by go_num, rfl, HO5, HB5⟩
      case measure => simp [intOf]; omega
    · obtain rfl : k = s := by omega
      have hrl : r.length = n := by rw [← HR.out, seatsL_length, HNV.out]
      have HRL := Lib.hid hrl
      clear hrl
      go_wp2
      go_ret2
      refine ⟨some ⟨g, 0, none⟩, c, by rw [HRL.out]; rfl, ?_, hBw⟩
      rw [HRL.out, ← HR.out, HG.out]
      exact hO.out

set_option maxHeartbeats 2000000 in
/-- **spec.SeatsDivisor**, at other arguments. -/
theorem specSeats_no (a : Option Addr) (n cap : Nat) (vs : List Int) (s m : Int) (al : Option Addr) (nl cl : Nat) (lots : List Int) (w : World) (h : IsInts w a n cap vs) (hl : IsInts w al nl cl lots) (hk : okD vs s m lots = false) :
    Calls Try.prog 59 #[.slice a n cap, .int .i64 s, .int .i64 m, .slice al nl cl] w (Told w [] false) := by
  have H1 := Lib.hid h
  have H3 := Lib.hid hl
  have hm1 := h.2.2.1
  have hm3 := hl.2.2.1
  obtain ⟨v1, hv1⟩ : ∃ v, voteB vs = v := ⟨_, rfl⟩
  obtain ⟨v2, hv2⟩ : ∃ v, inB s 0 20 = v := ⟨_, rfl⟩
  obtain ⟨v3, hv3⟩ : ∃ v, methB m = v := ⟨_, rfl⟩
  obtain ⟨v4, hv4⟩ : ∃ v, lotsB lots = v := ⟨_, rfl⟩
  have HO : Hid ((v1 && (v2 && (v3 && (v4 && decide (nl = n))))) = false) := by unfold Hid; rw [← hk]; unfold okD; rw [hv1, hv2, hv3, hv4, hl.1, h.1]
  have V1 := Lib.hid hv1
  have V2 := Lib.hid hv2
  have V3 := Lib.hid hv3
  have V4 := Lib.hid hv4
  have HT : Hid (∀ w1, Dr w w1 → Told w [] false (.returned (.tuple #[.slice (some ⟨w1.heap.size, 0, none⟩) 0 0, .bool false])) (w1.alloc (.cells #[] 3))) := fun w1 hd =>
    ⟨_, 0, rfl, World.ownsRow_lit w1 #[] 0 (hd.below w.heap.size).size (by unfold maxLen; omega) rfl, (hd.below _).alloc (hd.below w.heap.size).size _⟩
  clear h hl hv1 hv2 hv3 hv4 hk
  go_enter Try.func59, Try.ntmps59
  go_wp2_with fail
  refine (specVotes_as _ _ _ vs v1 _ H1.out V1.out).mono ?_
  rintro e w1 ⟨rfl, rfl⟩
  cases v1
  · go_wp2
    go_ret2
    exact HT.out _ (Dr.refl _)
  go_wp2_with fail
  refine (l6In_any _ _ _ _).mono ?_
  rintro e w' ⟨he, rfl⟩
  rw [V2.out] at he
  subst he
  cases v2
  · go_wp2
    go_ret2
    exact HT.out _ (Dr.refl _)
  go_wp2_with fail
  refine (specMeth_as m v3 _ V3.out).mono ?_
  rintro e w1 ⟨rfl, rfl⟩
  cases v3
  · go_wp2
    go_ret2
    exact HT.out _ (Dr.refl _)
  go_wp2_with fail
  refine (specLots_as _ _ _ lots v4 _ H3.out V4.out).mono ?_
  rintro e w1 ⟨rfl, hd⟩
  cases v4
  · go_wp2
    go_ret2
    exact HT.out _ hd
  have hll : ¬ nl = n := fun e => by have := HO.out; rw [decide_eq_true e] at this; cases this
  have hne : ((nl : Int) != (n : Int)) = true := by simp; omega
  go_wp2
  go_ret2
  exact HT.out _ hd

/-- **spec.SeatsDivisor**. -/
theorem specSeats_as (a : Option Addr) (n cap : Nat) (vs : List Int) (s m : Int) (al : Option Addr) (nl cl : Nat) (lots : List Int) (r : List Int) (v : Bool) (w : World) (h : IsInts w a n cap vs) (hl : IsInts w al nl cl lots) (hk : okD vs s m lots = v) (hr : divL vs s m lots = r) :
    Calls Try.prog 59 #[.slice a n cap, .int .i64 s, .int .i64 m, .slice al nl cl] w (Told w r v) := by
  cases v
  · rw [divL_no hk] at hr
    subst hr
    exact specSeats_no a n cap vs s m al nl cl lots w h hl hk
  · obtain ⟨h1, h2, h3, h4, h5⟩ := (okD_iff vs s m lots).1 hk
    obtain ⟨S, rfl⟩ := Int.eq_ofNat_of_zero_le h2.1
    have e : nl = n := by have := h.1; have := hl.1; omega
    subst e
    rw [divL, if_pos hk, Int.toNat_natCast] at hr
    exact specSeats_yes a nl cap vs S m al cl lots r w h hl h1 (by omega) h3 h4 hr

end Go.Proofs.Ytmbhcgdapglbgaa
