/-
  spec.MarksOf and impl.MarksOf answer alike, for every ballot of at most 1048600 ints and every number; both write into no memory that was there, and what they return is memory of their own.
-/
import Derived.Test.YtpgnneaaemfkoaaDoorSpecV
import Derived.Test.YtpgnneaaemfkoaaDoorOfL
import Derived.Test.YtpgnneaaemfkoaaDoorValid
import Derived.Test.YtpgnneaaemfkoaaDoorTold
import Derived.Deep.Onto
namespace Go.Proofs.YtpgnneaaemfkoaaDoor
open Go.RowKit Go.Shelf

attribute [local go_sem] Oper.semAt_some

set_option maxHeartbeats 2000000 in
/-- **spec.MarksOf**. -/
theorem specMarksOf_any (a : Option Addr) (len cap : Nat) (zs : List Int) (n : Int) (w : World) (h : IsInts w a len cap zs) :
    Calls Tryd.prog 10 #[.slice a len cap, .int .i64 n] w (Told w (markOfL zs n) (validB zs n)) := by
  obtain ⟨i0, hi, hz0, hz1, hz2⟩ := info_parts int_info
  have hm := h.2.2.1
  have H := Lib.hid h; clear h
  cases hv : validB zs n
  · have HP := Lib.hid (markOfL_no hv)
    have HV := Lib.hid hv
    go_enter Tryd.func10, Tryd.ntmps10
    go_wp2_with fail
    refine (specValid_any _ _ _ zs _ _ H.out).mono ?_
    rintro e w1 ⟨he, hd⟩
    rw [HV.out] at he
    subst he
    have hB := hd.below w.heap.size
    have hsz := hB.size
    go_wp2
    go_ret2
    refine ⟨some ⟨w1.heap.size, 0, none⟩, 0, ?_, ?_, hB.alloc hsz _⟩
    · rw [HP.out]; rfl
    · rw [HP.out]; exact World.ownsRow_lit w1 #[] 0 hsz (by unfold maxLen; omega) rfl
  · obtain ⟨hn1, hn5, _⟩ := vB_mem hv
    obtain ⟨m, rfl⟩ := Int.eq_ofNat_of_zero_le (by omega : 0 ≤ n)
    have hat := Lib.hid (fun i hi => vB_at hv i hi)
    have hm5 : m ≤ 5 := by omega
    have HP := Lib.hid (markOfL_yes hv)
    have HV := Lib.hid hv
    go_enter Tryd.func10, Tryd.ntmps10
    go_wp2_with fail
    refine (specValid_any _ _ _ zs _ _ H.out).mono ?_
    rintro e w1 ⟨he, hd⟩
    rw [HV.out] at he
    subst he
    have hB := hd.below w.heap.size
    have hsz := hB.size
    clear hd
    go_wp2_with (at_make; refine wpList_make_full _ rfl _ _ 23 rfl w.heap.size 3 i0 (.int .i64 0) 1 Tryd.underlying23 hi hz0 hz1 .i64 .i64 _ _ m rfl rfl rfl rfl (by rw [hz2]; omega) (by unfold maxLen; omega) hsz ?_; intro w2 hown hgrow)
    obtain ⟨g, hg⟩ : ∃ g, w1.heap.size = g := ⟨_, rfl⟩
    rw [hg] at hown hsz ⊢
    have hB1 : Below w.heap.size w w2 := hB.grown hgrow (by omega) (fun k e => by cases e)
    have HO : Hid (w2.ownsRow w.heap.size 3 1 (.slice (some ⟨g, 0, none⟩) m m) m ((ofTo m zs 0).map (Value.int .i64))) := by
      unfold Hid; rw [ofTo_zero, ← zeros_made]; exact hown
    clear hown hgrow hi hz0 hz1 hz2 hB hg
    go_wp2
    go_loopw [7] (fun i wr => ∃ k : Nat, k ≤ len ∧ i = .int .i64 k ∧ Hid (wr.ownsRow w.heap.size 3 1 (.slice (some ⟨g, 0, none⟩) m m) m ((ofTo m zs k).map (Value.int .i64))) ∧ Below w.heap.size w wr) (fun i _ => len - (intOf i).toNat)
    case atStart => exact ⟨0, Nat.zero_le _, rfl, HO, hB1⟩
    case round =>
      obtain ⟨k, hk, rfl, ho, hB⟩ := hrel
      have HI := H.out.below hB
      obtain ⟨h1, h2, h3, h4⟩ := HI
      have H1 := Lib.hid h1; clear h1
      by_cases hlt : k < len
      · obtain ⟨b, off, rfl, hb, hcell⟩ := h4 (by omega)
        have hck := hcell k hlt
        obtain ⟨hc0, hc1⟩ := hat.out k (by rw [H1.out]; exact hlt)
        have hst := Lib.hid (ofTo_succ m zs k)
        obtain ⟨z, hz⟩ : ∃ z, zs[k]?.getD 0 = z := ⟨_, rfl⟩
        rw [hz] at hck hc0 hc1 hst
        obtain ⟨c, rfl⟩ := Int.eq_ofNat_of_zero_le hc0
        have hcm : c < m := by omega
        have hcg : wr.cell? ⟨g, c, none⟩ = some (.int .i64 ((ofTo m zs k)[c]?.getD 0)) := by
          rw [ho.out.cellAt c (by omega)]
          have : c < (ofTo m zs k).length := by rw [ofTo_length]; exact hcm
          simp [this]
        have hfz := ho.out.frozenAt c
        have HS := Lib.hid (ho.out.stored c (.int .i64 ((k : Int) + 1)))
        clear hcell h4 hz
        go_wp2
        go_roundw
        case rel => exact ⟨k + 1, by omega, by go_num, by unfold Hid; rw [hst.out, Int.toNat_natCast, ← map_set_int]; exact HS.out.1, hB.setCell (p := ⟨g, c, none⟩) hsz _⟩
        case measure => simp [intOf]; omega
      · obtain rfl : k = len := by omega
        clear h4
        go_wp2
        go_ret2
        have hl : (markOfL zs (m : Int)).length = m := by rw [HP.out, ofL_length, Int.toNat_natCast]
        refine ⟨some ⟨g, 0, none⟩, m, ?_, ?_, hB⟩
        · rw [hl]; rfl
        · rw [hl, HP.out, Int.toNat_natCast, ofL, H1.out]; exact ho.out

/-- 'make([]T, n)' in a fenced walk. -/
theorem make_full_in {F : Fence} {n : Nat} {P : Program} (w : World) {ops : Array Oper} {rest : List Oper} {o : Oper} {a : Act} {Q : Exit → Act → World → Prop}
    (hg : o.guard = none) (l c : Operand) (t : TypeId) (hop : o.op = Op.makeSlice t l c)
    (base : Nat) (e : TypeId) (i : TypeInfo) (z : Value) (size : Nat) (h1 : P.underlying t = some (.slice e)) (h2 : P.info? e = some i) (h3 : i.zero = some z) (h4 : i.size = size)
    (kl kc : IntKind) (L C : Int) (m : Nat) (hl : a.eval l = .int kl L) (hc : a.eval c = .int kc C) (hL : L = (m : Int)) (hC : C = (m : Int)) (b2 : i.bytes * m ≤ 281474976710656) (b3 : m ≤ maxLen) (b4 : base ≤ w.heap.size)
    (hK : ∀ w', w'.ownsRow base e size (.slice (some ⟨w.heap.size, 0, none⟩) m m) m (madeCells z.cells (m * size)).toList → w.grownBy w' none → wpListIn F n P ops Q rest (a.put o.dst (.slice (some ⟨w.heap.size, 0, none⟩) m m)) w') :
    wpListIn F n P ops Q (o :: rest) a w := by
  subst hL; subst hC
  obtain ⟨w', hrun, r1, r2⟩ := run_make_full (P := P) w base t e i z size h1 h2 h3 h4 kl kc m b2 b3 b4
  refine wpListIn_plain hg fun K hK' => ?_
  have hcall : ∀ x : Oper → Prop, x o → x o := fun _ h => h
  unfold Oper.wpIn
  constructor
  · simp [Oper.about, hop]
  · rw [Oper.semAt_plain F _ _ (by rw [hop]; intro c' hc'; cases hc')]
    simp only [execOp, hop, hl, hc]
    simp [hrun, Result.andThen]
    exact hK' _ _ (hK w' r1 r2)

/-- A variable's box whose value hangs on what has come. -/
theorem boxed_own {β : Type} (B : Nat) (t : TypeId) (f : β → Value) : Own (fun s W => Boxed W B t (f s)) := by
  intro s X Y row hv hg hrow
  refine hv.kept hg (fun e' => ?_)
  obtain ⟨o, ho, hc⟩ := hrow B e'.symm
  rw [show X.heap[B]? = _ from hv] at ho; cases ho; cases hc

/-- A candidate's number, below m. -/
abbrev Cn (m : Nat) := { z : Int // 0 ≤ z ∧ z < (m : Int) }

set_option maxRecDepth 100000 in
set_option maxHeartbeats 2000000 in
/-- **impl.MarksOf**, at a valid ballot. -/
theorem implMarksOf_yes (a : Option Addr) (len cap : Nat) (zs : List Int) (m : Nat) (w : World) (h : IsInts w a len cap zs) (hv : validB zs (m : Int) = true) :
    CallsIn Fence.wide 8 Tryd.prog 9 #[.slice a len cap, .int .i64 (m : Int)] w fun e w' => ∃ a cap, e = .returned (.tuple #[.slice a m cap, .bool true]) ∧ w'.ownsRow w.heap.size 3 1 (.slice a m cap) m ((ofL m zs).map (Value.int .i64)) ∧ Below w.heap.size w w' := by
  have hro : Fence.wide.round = none := rfl
  have HR := Lib.hid (vB_mem hv).2.2
  have hm5 : m ≤ 5 := by have := vB_mem hv; omega
  obtain ⟨i0, hi, hz0, hz1, hz2⟩ := info_parts int_info
  have hm := h.2.2.1
  have H := Lib.hid h; clear h
  have HV := Lib.hid hv; clear hv
  refine callsIn_of_wp_marks Tryd.func9 rfl trivial ?_ hro
  simp only [Tryd.ntmps9, List.size_toArray, List.length_cons, List.length_nil, Nat.reduceAdd, Nat.reduceSub, Array.replicate_succ, Array.replicate_zero, List.push_toArray, List.append_toArray, List.nil_append, List.cons_append]
  gi_wp2
  refine ⟨trivial, ?_⟩
  gi_at_call 15
  refine (implValid_wide _ _ _ _ zs _ _ H.out).mono ?_
  rintro e w1 ⟨he, hb1⟩
  rw [HV.out] at he
  subst he
  have hsz : w.heap.size ≤ w1.heap.size := hb1.size
  gi_wp2_with (gi_at_make; refine make_full_in _ rfl _ _ 23 rfl w1.heap.size 3 i0 (.int .i64 0) 1 Tryd.underlying23 hi hz0 hz1 .i64 .i64 _ _ m rfl rfl rfl rfl (by rw [hz2]; omega) (by unfold maxLen; omega) (Nat.le_refl _) ?_; intro w2 hown hgrow)
  have hB2 : Below w1.heap.size w1 w2 := (Below.refl _ w1).grown hgrow (Nat.le_refl _) (fun k e => by cases e)
  have hsz2 : w1.heap.size ≤ w2.heap.size := hgrow.size
  have HOWN : Hid (w2.ownsRow w1.heap.size 3 1 (.slice (some ⟨w1.heap.size, 0, none⟩) m m) m ((ofL m []).map (Value.int .i64))) := by
    unfold Hid; rw [ofL_nil, ← zeros_made]; exact hown
  clear hown hgrow
  gi_wp2
  refine ⟨trivial, ?_⟩
  gi_at_call 22
  refine (candidates_in Fence.wide _ (by omega) trivial trivial hro _ _ _ _).mono ?_
  rintro e w' ⟨rfl, rfl⟩
  gi_wp2
  obtain ⟨g, hg⟩ : ∃ g, w1.heap.size = g := ⟨_, rfl⟩
  rw [hg] at hB2 hsz2 HOWN hsz ⊢
  have bM := ((Boxed.new w2 23 (.slice (some ⟨g, 0, none⟩) m m)).alloc (.cells #[.int .i64 0] 3)).alloc (.cells #[.slice a len cap] 23)
  have bR := (Boxed.new (w2.alloc (.cells #[.slice (some ⟨g, 0, none⟩) m m] 23)) 3 (.int .i64 0)).alloc (.cells #[.slice a len cap] 23)
  have bV := Boxed.new ((w2.alloc (.cells #[.slice (some ⟨g, 0, none⟩) m m] 23)).alloc (.cells #[.int .i64 0] 3)) 23 (.slice a len cap)
  simp only [World.size_alloc] at bR bV
  have hgw : g < w2.heap.size := (HOWN.out.lt g rfl).2
  have hB3 : Below g w1 (((w2.alloc (.cells #[.slice (some ⟨g, 0, none⟩) m m] 23)).alloc (.cells #[.int .i64 0] 3)).alloc (.cells #[.slice a len cap] 23)) := ((hB2.alloc hsz2 _).alloc (by simp; omega) _).alloc (by simp; omega) _
  have hB3' : Below w1.heap.size w1 (((w2.alloc (.cells #[.slice (some ⟨g, 0, none⟩) m m] 23)).alloc (.cells #[.int .i64 0] 3)).alloc (.cells #[.slice a len cap] 23)) := by rw [hg]; exact hB3
  refine wpIn_rangeFunc_ownG hro (by omega) (gf := 40) (lb := #[.pointer (some ⟨w2.heap.size + 1 + 1, 0, none⟩)]) rfl trivial (enters_of Tryd.func40 (by kernel_rfl) rfl)
    (values_stops_g (fun z : Cn m => z.1) (zs.pmap Subtype.mk HR.out) Fence.wide 7 trivial hro (by omega) (w2.heap.size + 1 + 1) a len cap zs (by simp [List.map_pmap]) w1 _ (by simp) hB3' bV.cell (H.out.below hb1)) belowK_t (belowK_b (by simp; omega)) (Below.refl _ _) (fun _ => rfl)
    (fun pre W => ((Boxed W (w2.heap.size + 1) 3 (.int .i64 (pre.length : Int))) ∧ ∃ v, Boxed W w2.heap.size 23 v ∧ W.ownsRow g 3 1 v m ((ofL m (pre.map fun z => z.1)).map (Value.int .i64)) ∧ v = .slice (some ⟨g, 0, none⟩) m m) ∧ Below g w1 W)
    (fun _ _ _ => False)
    (OwnFrom.and (OwnFrom.and (Own.from (boxed_own (w2.heap.size + 1) 3 (fun (pre : List (Cn m)) => .int .i64 (pre.length : Int))) _) (Own.from (holdsRow_own g w2.heap.size 23 3 1 (fun (_ : List (Cn m)) => m) (fun (pre : List (Cn m)) => (ofL m (pre.map fun z => z.1)).map (Value.int .i64)) (fun (_ : List (Cn m)) v => v = .slice (some ⟨g, 0, none⟩) m m)) _)) (ownFrom_below (by omega) (by simp; omega)))
    (fun _ _ _ _ _ hs _ _ => hs)
    ⟨⟨bR, _, bM, ((HOWN.out.alloc _).alloc _).alloc _, rfl⟩, hB3⟩
    (fun z => { tmps := #[.slice a len cap, .int .i64 (m : Int), undef, undef, .slice none 0 0, .bool false, .pointer (some ⟨w2.heap.size, 0, none⟩), .pointer (some ⟨w2.heap.size + 1, 0, none⟩), .int .i64 z.1, .slice a len cap,
      .int .i64 (m : Int), .bool true, .bool false, .int .i64 (m : Int), .slice (some ⟨g, 0, none⟩) m m, .slice a len cap, .func (.func 40) #[] #[.pointer (some ⟨w2.heap.size + 1 + 1, 0, none⟩)], .int .i64 z.1,
      undef, undef, undef, undef, undef, undef, undef], defers := [] }) ?assign ?body ?done ?stop
  case assign =>
    intro l z W K hK
    gi_wp2
    exact hK
  case body =>
    rintro l pre ⟨z, hz0', hzm⟩ W ⟨⟨hbr, v, hbm, hrow, rfl⟩, hB⟩ hlt
    obtain ⟨c, rfl⟩ := Int.eq_ofNat_of_zero_le hz0'
    have hcm : c < m := by omega
    have hcl : pre.length < 1048600 := by omega
    obtain ⟨L, hL⟩ : ∃ L, ofL m (pre.map fun z => z.1) = L := ⟨_, rfl⟩
    have hst := ofL_snoc m (pre.map fun z => z.1) (c : Int)
    rw [hL, List.length_map, Int.toNat_natCast] at hst
    have hLl : L.length = m := by rw [← hL, ofL_length]
    rw [hL] at hrow
    have hst := Lib.hid hst
    have hLl := Lib.hid hLl
    clear hL
    have hcr := hbr.cell
    have hfr := hbr.frozen
    have hcm' := hbm.cell
    have hgs : g ≠ w2.heap.size + 1 := by omega
    have hbm1 := hbm.kept (grownBy_setCell' W (w2.heap.size + 1) (.int .i64 ((pre.length : Int) + 1))) (by simp)
    have hbr1 := hbr.set (.int .i64 ((pre.length : Int) + 1))
    have hrow1 := hrow.kept (grownBy_setCell' W (w2.heap.size + 1) (.int .i64 ((pre.length : Int) + 1))) (.inr (by simp [Value.ownBlock]; omega))
    have hcm1 := hbm1.cell
    have hcr1 := hbr1.cell
    have hcg : (W.setCell ⟨w2.heap.size + 1, 0, none⟩ (.int .i64 ((pre.length : Int) + 1))).cell? ⟨g, c, none⟩ = some (.int .i64 (L[c]?.getD 0)) := by
      rw [hrow1.cellAt c (by omega)]
      have : c < L.length := by rw [hLl.out]; exact hcm
      simp [this]
    have hfz := hrow1.frozenAt c
    have HS := Lib.hid (hrow1.stored c (.int .i64 ((pre.length : Int) + 1)))
    have hk1 : KeepsOthers W ((W.setCell ⟨w2.heap.size + 1, 0, none⟩ (.int .i64 ((pre.length : Int) + 1))).setCell ⟨g, c, none⟩ (.int .i64 ((pre.length : Int) + 1))) := (KeepsOthers.setCell _ _ _).trans (KeepsOthers.setCell _ _ _)
    have hb1' : Below g W ((W.setCell ⟨w2.heap.size + 1, 0, none⟩ (.int .i64 ((pre.length : Int) + 1))).setCell ⟨g, c, none⟩ (.int .i64 ((pre.length : Int) + 1))) := ((Below.refl g W).setCell (p := ⟨w2.heap.size + 1, 0, none⟩) (by simp; omega) _).setCell (p := ⟨g, c, none⟩) (Nat.le_refl _) _
    have hbr2 := Lib.hid (hbr1.kept HS.out.2 (by simp; omega))
    have hbm2 := Lib.hid (hbm1.kept HS.out.2 (by simp; omega))
    clear hbm1 hbr1 hrow1 hbm hbr hrow
    gi_wp2
    refine ⟨hk1.from _, by rw [hg]; exact hb1', ⟨by simpa using hbr2.out, _, hbm2.out, ?_, rfl⟩, hB.trans hb1'⟩
    rw [List.map_append, List.map_cons, List.map_nil, hst.out, ← map_set_int]
    exact HS.out.1
  case done =>
    rintro D ys W hD hys ⟨⟨hbr, v, hbm, hrow, rfl⟩, hB⟩ hK
    have hym : (ys.map fun z => z.1) = zs := by rw [hys]; simp [List.map_pmap]
    rw [hym] at hrow
    clear hym hys hbr
    have hc := hbm.cell
    have HRow := Lib.hid hrow; clear hrow
    gi_wp2
    refine ⟨by simp, .inl ⟨_, _, rfl, run_takeDeferred hK, ?_⟩⟩
    refine ⟨.tuple #[.slice (some ⟨g, 0, none⟩) m m, .bool true], by simp [results, Tryd.f9, go_sem], some ⟨g, 0, none⟩, m, rfl, World.ownsRow.mono (base' := w.heap.size) (ownsRow_putObj HRow.out _ hK rfl) hsz, ?_⟩
    exact hb1.trans ((hB.trans (belowK_b (w := w1) (by omega) W D _ _ (by simp at hD; omega) hK rfl rfl)).mono hsz)
  case stop =>
    rintro D c pre W _ _ h _
    exact h.elim

set_option maxRecDepth 100000 in
set_option maxHeartbeats 1000000 in
/-- **impl.MarksOf** answers as the model does. -/
theorem implMarksOf_any (a : Option Addr) (len cap : Nat) (zs : List Int) (n : Int) (w : World) (h : IsInts w a len cap zs) :
    Calls Tryd.prog 9 #[.slice a len cap, .int .i64 n] w (Told w (markOfL zs n) (validB zs n)) := by
  cases hv : validB zs n
  · refine (callsIn_wide (n := 8)).1 ?_
    have HP := Lib.hid (markOfL_no hv)
    have HV := Lib.hid hv
    have H := Lib.hid h; clear h
    refine callsIn_of_wp Tryd.func9 rfl trivial ?_ rfl
    simp only [Tryd.ntmps9, List.size_toArray, List.length_cons, List.length_nil, Nat.reduceAdd, Nat.reduceSub, Array.replicate_succ, Array.replicate_zero, List.push_toArray, List.append_toArray, List.nil_append, List.cons_append]
    gi_wp2
    refine ⟨trivial, ?_⟩
    gi_at_call 15
    refine (implValid_wide _ _ _ _ zs _ _ H.out).mono ?_
    rintro e1 w1 ⟨he, hb1⟩
    rw [HV.out] at he
    subst he
    gi_wp2
    refine bodyPost_ret (v := .tuple #[.slice none 0 0, .bool false]) (by simp [results, Tryd.f9, go_sem]) rfl ⟨none, 0, ?_, ?_, hb1⟩
    · rw [HP.out]; rfl
    · rw [HP.out]; exact World.ownsRow_nil _ _ _ _
  · have hm := vB_mem hv
    obtain ⟨m, rfl⟩ := Int.eq_ofNat_of_zero_le (by omega : 0 ≤ n)
    refine ((callsIn_wide (n := 8)).1 (implMarksOf_yes a len cap zs m w h hv)).mono ?_
    rintro e w1 ⟨a1, c1, rfl, ho, hb⟩
    have hl : (markOfL zs (m : Int)).length = m := by rw [markOfL_yes hv, ofL_length, Int.toNat_natCast]
    refine ⟨a1, c1, ?_, ?_, hb⟩
    · rw [hl]
    · rw [hl, markOfL_yes hv, Int.toNat_natCast]; exact ho

/-- **spec.MarksOf**, its answer named. -/
theorem specMarksOf_as (a : Option Addr) (len cap : Nat) (zs : List Int) (n : Int) (pl : List Int) (ok : Bool) (w : World) (h : IsInts w a len cap zs) (h1 : markOfL zs n = pl) (h2 : validB zs n = ok) :
    Calls Tryd.prog 10 #[.slice a len cap, .int .i64 n] w (Told w pl ok) := by
  subst h1; subst h2; exact specMarksOf_any a len cap zs n w h
/-- **impl.MarksOf**, its answer named. -/
theorem implMarksOf_as (a : Option Addr) (len cap : Nat) (zs : List Int) (n : Int) (pl : List Int) (ok : Bool) (w : World) (h : IsInts w a len cap zs) (h1 : markOfL zs n = pl) (h2 : validB zs n = ok) :
    Calls Tryd.prog 9 #[.slice a len cap, .int .i64 n] w (Told w pl ok) := by
  subst h1; subst h2; exact implMarksOf_any a len cap zs n w h

end Go.Proofs.YtpgnneaaemfkoaaDoor
