/-
  spec.BallotPrefers and impl.BallotPrefers answer alike: for every ballot of at most 1048600 ints, and every two numbers; neither writes into memory that was there.
-/
import Derived.Test.YtaaamidkfhabnaaGrp3
import Derived.Test.YtaaamidkfhabnaaValid
import Derived.Test.YtaaamidkfhabnaaGrp8
namespace Go.Proofs.Ytaaamidkfhabnaa
open Go.RowKit Go.Shelf

attribute [local go_sem] Oper.semAt_some

set_option maxHeartbeats 1000000 in
theorem specPrefers_any (a : Option Addr) (len cap : Nat) (zs : List Int) (x y : Int) (w : World) (h : IsInts w a len cap zs) :
    Calls Try.prog 88 #[.slice a len cap, .int .i64 x, .int .i64 y] w fun e w' => e = .returned (.bool (prefB zs x y)) ∧ Dr w w' := by
  have hm := h.2.2.1
  have H := Lib.hid h; clear h
  cases hv : validB zs 5
  · have e : Hid (prefB zs x y = false) := by simp [Hid, prefB, hv]
    go_enter Try.func88, Try.ntmps88
    go_wp2_with fail
    refine (specValid_any _ _ _ zs _ _ H.out).mono ?_
    rintro e w1 ⟨rfl, hd⟩
    go_wp2
    go_ret
    exact ⟨ret_bool e.out.symm, hd⟩
  · by_cases hxy : x = y
    · subst hxy
      have e : Hid (prefB zs x x = false) := by simp [Hid, prefB]
      have hx : (x == x) = true := by simp
      go_enter Try.func88, Try.ntmps88
      go_wp2_with fail
      refine (specValid_any _ _ _ zs _ _ H.out).mono ?_
      rintro e w1 ⟨rfl, hd⟩
      go_wp2
      go_ret
      exact ⟨ret_bool e.out.symm, hd⟩
    · have e : Hid (prefB zs x y = prefL zs x y) := by simp [Hid, prefB, hv, hxy]
      have hx : (x == y) = false := by simpa using hxy
      clear hxy
      go_enter Try.func88, Try.ntmps88
      go_wp2_with fail
      refine (specValid_any _ _ _ zs _ _ H.out).mono ?_
      rintro e1 w1 ⟨rfl, hd⟩
      go_wp2
      go_loopw [7] (fun i wr => ∃ k : Nat, k ≤ len ∧ i = .int .i64 k ∧ Hid (prefL zs x y = prefL (zs.drop k) x y) ∧ Dr w wr) (fun i _ => len - (intOf i).toNat)
      case atStart => exact ⟨0, Nat.zero_le _, rfl, by simp [Hid], hd⟩
      case round =>
        obtain ⟨k, hk, rfl, hp, hd2⟩ := hrel
        obtain ⟨h1, _, _, h4⟩ := H.out.dr hd2
        have H1 := Lib.hid h1; clear h1
        by_cases hlt : k < len
        · obtain ⟨b, o, rfl, hb, hc⟩ := h4 (by omega)
          have hz := hc k hlt
          clear hc h4
          have HD := Lib.hid (drop_cons zs k (by rw [H1.out]; exact hlt))
          cases hzx : (zs[k]?.getD 0 == x)
          · cases hzy : (zs[k]?.getD 0 == y)
            · have HX := Lib.hid hzx
              have HY := Lib.hid hzy
              go_wp2
              go_roundw
              case rel =>
                refine ⟨k + 1, by omega, by go_num, ?_, hd2⟩
                unfold Hid
                rw [hp.out, HD.out, prefL, if_neg (by simpa using HX.out), if_neg (by simpa using HY.out)]
              case measure => simp [intOf]; omega
            · have HX := Lib.hid hzx
              have HY := Lib.hid hzy
              go_wp2
              go_ret
              refine ⟨ret_bool ?_, hd2⟩
              rw [e.out, hp.out, HD.out, prefL, if_neg (by simpa using HX.out), if_pos (by simpa using HY.out)]
          · have HX := Lib.hid hzx
            go_wp2
            go_ret
            refine ⟨ret_bool ?_, hd2⟩
            rw [e.out, hp.out, HD.out, prefL, if_pos (by simpa using HX.out)]
        · obtain rfl : k = len := by omega
          clear h4
          go_wp2
          go_ret
          refine ⟨ret_bool ?_, hd2⟩
          rw [e.out, hp.out, List.drop_of_length_le (by rw [H1.out]; omega)]; rfl

set_option maxRecDepth 100000 in
set_option maxHeartbeats 2000000 in
/-- **impl.BallotPrefers**, at two numbers and a valid ballot. -/
theorem implPrefers_yes (a : Option Addr) (len cap : Nat) (zs : List Int) (x y : Int) (w : World) (h : IsInts w a len cap zs) (hv : validB zs 5 = true) (hx : (x == y) = false) :
    CallsIn Fence.wide 8 Try.prog 104 #[.slice a len cap, .int .i64 x, .int .i64 y] w fun e w' => e = .returned (.bool (prefL zs x y)) ∧ Below w.heap.size w w' := by
  have hro : Fence.wide.round = none := rfl
  have H := Lib.hid h; clear h
  refine callsIn_of_wp_marks Try.func104 rfl trivial ?_ hro
  simp only [Try.ntmps104, List.size_toArray, List.length_cons, List.length_nil, Nat.reduceAdd, Nat.reduceSub, Array.replicate_succ, Array.replicate_zero, List.push_toArray, List.append_toArray, List.nil_append, List.cons_append]
  gi_wp2
  refine ⟨trivial, ?_⟩
  gi_at_call 101
  refine (implValid_wide _ _ _ _ zs _ _ (H.out.below ((((Below.refl _ w).alloc (Nat.le_refl _) _).alloc (by simp) _).alloc (by simp; omega) _))).mono ?_
  rintro e w1 ⟨rfl, hb1⟩
  have hB1 : Below w.heap.size w w1 := ((((Below.refl _ w).alloc (Nat.le_refl _) _).alloc (by simp) _).alloc (by simp; omega) _).trans (hb1.mono (by simp; omega))
  have hsz : w.heap.size + 1 + 1 + 1 ≤ w1.heap.size := by have := hb1.size; simpa using this
  gi_wp2
  refine ⟨trivial, ?_⟩
  gi_at_call 108
  refine (candidates_in Fence.wide _ (by omega) trivial trivial hro _ _ _ _).mono ?_
  rintro e w' ⟨rfl, rfl⟩
  gi_wp2
  have bX0 := ((Boxed.new w 3 (.int .i64 x)).alloc (.cells #[.int .i64 y] 3)).alloc (.cells #[.bool false] 4)
  have bY0 := (Boxed.new (w.alloc (.cells #[.int .i64 x] 3)) 3 (.int .i64 y)).alloc (.cells #[.bool false] 4)
  have bR0 := Boxed.new ((w.alloc (.cells #[.int .i64 x] 3)).alloc (.cells #[.int .i64 y] 3)) 4 (.bool false)
  simp only [World.size_alloc] at bX0 bY0 bR0
  have bX : Boxed w1 w.heap.size 3 (.int .i64 x) := (hb1.block _ (by simp; omega)).trans bX0
  have bY : Boxed w1 (w.heap.size + 1) 3 (.int .i64 y) := (hb1.block _ (by simp)).trans bY0
  have bR : Boxed w1 (w.heap.size + 1 + 1) 4 (.bool false) := (hb1.block _ (by simp)).trans bR0
  clear bX0 bY0 bR0
  have bV := Boxed.new w1 30 (.slice a len cap)
  have hB2 : Below w.heap.size w (w1.alloc (.cells #[.slice a len cap] 30)) := hB1.alloc (by omega) _
  refine wpIn_rangeFunc_ownG hro (by omega) (gf := 127) (lb := #[.pointer (some ⟨w1.heap.size, 0, none⟩)]) rfl trivial (enters_of Try.func127 (by kernel_rfl) rfl)
    (values_stops Fence.wide 7 trivial hro (by omega) w1.heap.size a len cap zs w _ (by simp) hB2 bV.cell H.out) belowK_t (belowK_b (by simp; omega)) (Below.refl _ _) (fun _ => rfl)
    (fun pre W => (W.cell? ⟨w.heap.size, 0, none⟩ = some (.int .i64 x) ∧ W.cell? ⟨w.heap.size + 1, 0, none⟩ = some (.int .i64 y) ∧ (W.cell? ⟨w.heap.size + 1 + 1, 0, none⟩ = some (.bool false) ∧ W.frozen? ⟨w.heap.size + 1 + 1, 0, none⟩ = false) ∧ ∀ z ∈ pre, z ≠ x ∧ z ≠ y) ∧ Below w.heap.size w W)
    (fun c pre W => (c = .ret ∧ ∃ r, (∀ rest, prefL (pre ++ rest) x y = r) ∧ W.cell? ⟨w.heap.size + 1 + 1, 0, none⟩ = some (.bool r)) ∧ Below w.heap.size w W)
    (OwnFrom.and (Own.from (fun s A B row hs hg hr => ⟨cell_kept hs.1 hg hr, cell_kept hs.2.1 hg hr, ⟨cell_kept hs.2.2.1.1 hg hr, (frozen_kept hs.2.2.1.1 hg hr).trans hs.2.2.1.2⟩, hs.2.2.2⟩) _) (ownFrom_below (Nat.le_refl _) (by simp; omega)))
    (fun c => OwnFrom.and (Own.from (fun s A B row hs hg hr => by obtain ⟨e1, r, e2, e3⟩ := hs; exact ⟨e1, r, e2, cell_kept e3 hg hr⟩) _) (ownFrom_below (Nat.le_refl _) (by simp; omega)))
    ⟨⟨(bX.alloc _).cell, (bY.alloc _).cell, ⟨(bR.alloc _).cell, (bR.alloc _).frozen⟩, by simp⟩, hB2⟩
    (fun z => { tmps := #[.slice a len cap, .int .i64 x, .int .i64 y, undef, .pointer (some ⟨w.heap.size, 0, none⟩), .pointer (some ⟨w.heap.size + 1, 0, none⟩), .pointer (some ⟨w.heap.size + 1 + 1, 0, none⟩), .int .i64 z,
      .int .i64 x, .int .i64 y, .bool false, .bool false, .slice a len cap, .bool true, .bool false, .bool false, .slice a len cap, .func (.func 127) #[] #[.pointer (some ⟨w1.heap.size, 0, none⟩)], .int .i64 z,
      undef, undef, undef, undef, undef, undef, undef], defers := [] }) ?assign ?body ?done ?stop
  case assign =>
    intro l z W K hK
    gi_wp2
    exact hK
  case body =>
    rintro l pre z W ⟨⟨hcx, hcy, ⟨hcr, hfr⟩, hfree⟩, hB⟩ hlt
    have HF := Lib.hid hfree; clear hfree
    cases hzx : (z == x)
    · have hnx : z ≠ x := by simpa using hzx
      have HNX := Lib.hid hnx; clear hnx
      cases hzy : (z == y)
      · have hny : z ≠ y := by simpa using hzy
        have HNY := Lib.hid hny; clear hny
        gi_wp2
        exact ⟨KeepsFrom.refl _ _, Below.refl _ _, ⟨hcx, hcy, ⟨hcr, hfr⟩, fun u hu => (List.mem_append.1 hu).elim (HF.out u) (fun e => by simp at e; subst e; exact ⟨HNX.out, HNY.out⟩)⟩, hB⟩
      · have HY := Lib.hid hzy
        gi_wp2
        refine ⟨(KeepsOthers.setCell _ _ _).from _, ⟨rfl, false, fun rest => ?_, World.cell?_setCell_same' _ _ _ (by rw [hcr]; rfl)⟩, hB.setCell (p := ⟨w.heap.size + 1 + 1, 0, none⟩) (by simp; omega) _⟩
        rw [List.append_assoc, prefL_app HF.out, List.singleton_append, prefL, if_neg HNX.out, if_pos (by simpa using HY.out)]
    · have HX := Lib.hid hzx
      gi_wp2
      refine ⟨(KeepsOthers.setCell _ _ _).from _, ⟨rfl, true, fun rest => ?_, World.cell?_setCell_same' _ _ _ (by rw [hcr]; rfl)⟩, hB.setCell (p := ⟨w.heap.size + 1 + 1, 0, none⟩) (by simp; omega) _⟩
      rw [List.append_assoc, prefL_app HF.out, List.singleton_append, prefL, if_pos (by simpa using HX.out)]
  case done =>
    rintro D ys W hD rfl ⟨⟨hcx, hcy, ⟨hcr, hfr⟩, hfree⟩, hB⟩ hK
    have HF := Lib.hid hfree; clear hfree
    gi_wp2
    have hK' := (KeepsOthers.setCell W ⟨w.heap.size + 1 + 1, 0, none⟩ (.bool false)).same D _ hK rfl
    refine ⟨by simp, .inl ⟨_, _, rfl, run_takeDeferred hK', ?_⟩⟩
    have hc5 := cell_kept (World.cell?_setCell_same' W ⟨w.heap.size + 1 + 1, 0, none⟩ (.bool false) (by rw [hcr]; rfl)) (grownBy_putObj' _ D (.deferred none)) (fun r e => by cases e; exact ⟨_, hK', rfl⟩)
    refine ⟨.bool false, ?_, ret_bool ?_, (hB.setCell (p := ⟨w.heap.size + 1 + 1, 0, none⟩) (by simp; omega) _).trans (belowK_b (w := w) (Nat.le_refl _) _ D _ _ (by simp at hD; omega) hK' rfl rfl)⟩
    · simp [results, Try.f104, go_sem, hc5]
    · have := prefL_app HF.out []
      rw [List.append_nil] at this
      rw [this]; rfl
  case stop =>
    rintro D c pre W hD ⟨t, ht⟩ ⟨⟨rfl, r, hr, hcr⟩, hB⟩ hK
    have HR := Lib.hid (ht ▸ hr t); clear hr ht
    gi_wp2
    refine ⟨by simp, .inl ⟨_, _, rfl, run_takeDeferred hK, ?_⟩⟩
    have hc5 := cell_kept hcr (grownBy_putObj' _ D (.deferred none)) (fun r e => by cases e; exact ⟨_, hK, rfl⟩)
    refine ⟨.bool r, ?_, ret_bool HR.out.symm, hB.trans (belowK_b (w := w) (Nat.le_refl _) W D _ _ (by simp at hD; omega) hK rfl rfl)⟩
    simp [results, Try.f104, go_sem, hc5]

set_option maxRecDepth 100000 in
set_option maxHeartbeats 1000000 in
/-- **impl.BallotPrefers** answers as the model does. -/
theorem implPrefers_any (a : Option Addr) (len cap : Nat) (zs : List Int) (x y : Int) (w : World) (h : IsInts w a len cap zs) :
    Calls Try.prog 104 #[.slice a len cap, .int .i64 x, .int .i64 y] w fun e w' => e = .returned (.bool (prefB zs x y)) ∧ Below w.heap.size w w' := by
  refine (callsIn_wide (n := 8)).1 ?_
  by_cases hxy : x = y
  · subst hxy
    have e : Hid (prefB zs x x = false) := by simp [Hid, prefB]
    have hx : (x == x) = true := by simp
    refine callsIn_of_wp Try.func104 rfl trivial ?_ rfl
    simp only [Try.ntmps104, List.size_toArray, List.length_cons, List.length_nil, Nat.reduceAdd, Nat.reduceSub, Array.replicate_succ, Array.replicate_zero, List.push_toArray, List.append_toArray, List.nil_append, List.cons_append]
    gi_wp2
    refine ⟨trivial, ?_⟩
    gi_wp2
    exact bodyPost_ret (v := .bool false) (by simp [results, Try.f104, go_sem]) rfl ⟨ret_bool e.out.symm, (((Below.refl _ w).alloc (Nat.le_refl _) _).alloc (by simp) _).alloc (by simp; omega) _⟩
  · have hx : (x == y) = false := by simpa using hxy
    cases hv : validB zs 5
    · have e : Hid (prefB zs x y = false) := by simp [Hid, prefB, hv]
      have H := Lib.hid h; clear h hxy
      refine callsIn_of_wp Try.func104 rfl trivial ?_ rfl
      simp only [Try.ntmps104, List.size_toArray, List.length_cons, List.length_nil, Nat.reduceAdd, Nat.reduceSub, Array.replicate_succ, Array.replicate_zero, List.push_toArray, List.append_toArray, List.nil_append, List.cons_append]
      gi_wp2
      refine ⟨trivial, ?_⟩
      gi_at_call 101
      refine (implValid_wide _ _ _ _ zs _ _ (H.out.below ((((Below.refl _ w).alloc (Nat.le_refl _) _).alloc (by simp) _).alloc (by simp; omega) _))).mono ?_
      rintro e1 w1 ⟨rfl, hb1⟩
      have hB1 : Below w.heap.size w w1 := ((((Below.refl _ w).alloc (Nat.le_refl _) _).alloc (by simp) _).alloc (by simp; omega) _).trans (hb1.mono (by simp; omega))
      have hsz : w.heap.size + 1 + 1 + 1 ≤ w1.heap.size := by have := hb1.size; simpa using this
      have bR0 := Boxed.new ((w.alloc (.cells #[.int .i64 x] 3)).alloc (.cells #[.int .i64 y] 3)) 4 (.bool false)
      simp only [World.size_alloc] at bR0
      have bR : Boxed w1 (w.heap.size + 1 + 1) 4 (.bool false) := (hb1.block _ (by simp)).trans bR0
      have hcr := bR.cell
      have hfr := bR.frozen
      clear bR0 bR
      gi_wp2
      have hc5 := World.cell?_setCell_same' w1 ⟨w.heap.size + 1 + 1, 0, none⟩ (.bool false) (by rw [hcr]; rfl)
      exact bodyPost_ret (v := .bool false) (by simp [results, Try.f104, go_sem, hc5]) rfl ⟨ret_bool e.out.symm, hB1.setCell (p := ⟨w.heap.size + 1 + 1, 0, none⟩) (by simp; omega) _⟩
    · rw [show prefB zs x y = prefL zs x y from by simp [prefB, hv, hxy]]
      exact implPrefers_yes a len cap zs x y w h hv hx

end Go.Proofs.Ytaaamidkfhabnaa
