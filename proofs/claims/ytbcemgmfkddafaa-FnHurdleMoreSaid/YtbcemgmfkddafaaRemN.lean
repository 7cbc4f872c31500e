/-
  impl.newRemainderStack: the stack of all parties' remainders: a contract. It writes into no memory that was there.
-/
import Derived.Test.YtbcemgmfkddafaaGrp10
import Derived.RangeFuncNested
import Derived.Deep.RegionLaw
namespace Go.Proofs.Ytbcemgmfkddafaa
open Go.RowKit Go.Shelf

attribute [local go_sem] Oper.semAt_some

/-- A party's number, with its index in the lots. -/
abbrev Pn (n : Nat) := { x : Int × Int // 0 ≤ x.2 ∧ x.2 < (n : Int) }
theorem stk_own {β : Type} (S B : Nat) (R : Int → Int) (f : β → List Int) (G : Nat) : OwnFrom B (fun s W => ∃ bs, Stk W S R bs (f s) ∧ ∀ k ∈ bs, G ≤ k) := by
  rintro s W W' row ⟨bs, h, hk⟩ hg hr
  have hne : ∀ (k : Nat) (c : Array Value) (e : TypeId) (z : Nat × Nat), W.heap[k]? = some (Obj.cells c e z) → W'.heap[k]? = W.heap[k]? := fun k c e z hc => hg.block k (rb_lt hc) (fun e' => by
    obtain ⟨-, o, ho, hcc⟩ := hr k e'.symm
    rw [hc] at ho; cases ho; cases hcc)
  exact ⟨bs, h.kept (hne _ _ _ _ h.top) (fun k hkb => by obtain ⟨c, hc⟩ := h.lst.mem k hkb; exact hne _ _ _ _ hc), hk⟩
theorem Only.keeps {w w' : World} {S : Nat} {bs : List Nat} (h : Only w w' S bs) (hc : ∀ k, k ∈ S :: bs → ∃ c e z, w.heap[k]? = some (Obj.cells c e z)) : KeepsOthers w w' :=
  ⟨Nat.le_of_eq h.size.symm, fun k o hk ho => by
    by_cases h1 : k ∈ S :: bs
    · obtain ⟨c, e, z, hcc⟩ := hc k h1
      rw [hk] at hcc; cases hcc; cases ho
    · exact (h.block k (fun e => h1 (by simp [e])) (fun e => h1 (by simp [e]))).trans hk⟩

set_option maxRecDepth 100000 in
set_option maxHeartbeats 8000000 in
/-- **newRemainderStack**. -/
theorem newStack_as (a : Option Addr) (n cap : Nat) (cs : List Fr) (al : Option Addr) (cl : Nat) (lots : List Int) (R : Int → Int) (w : World) (h : IsFr w a n cap cs) (hl : IsInts w al n cl lots) (hn : 0 < n) (hm : ∀ z ∈ lots, 0 ≤ z ∧ z < (n : Int)) (hR : ∀ z : Nat, z < n → (fAt cs z).2 = R (z : Int)) :
    Calls Try.prog 51 #[.slice a n cap, .slice al n cl] w fun e w' => ∃ S bs, e = .returned (.pointer (some ⟨S, 0, none⟩)) ∧ Stk w' S R bs (stR R lots) ∧ w.heap.size ≤ S ∧ (∀ k ∈ bs, w.heap.size ≤ k) ∧ Below w.heap.size w w' := by
  refine (callsIn_wide (n := 9)).1 ?_
  have hro : Fence.wide.round = none := rfl
  obtain ⟨b, off, rfl, hb, hc⟩ := h.2.2.2 hn
  have HC := Lib.hid hc
  have HI := Lib.hid hl
  have HR := Lib.hid hR
  have HM := Lib.hid hm
  have hnl : lots.length = n := hl.1
  clear h hl hc hR hm
  -- the rounds' list
  obtain ⟨xs, hxs⟩ : ∃ xs : List (Pn n), xs.length = n ∧ (∀ k (h : k < xs.length), xs[k].1.1 = (n : Int) - 1 - (k : Int)) ∧ (∀ k (h : k < xs.length), xs[k].1.2 = lots[n - 1 - k]?.getD 0) ∧ (xs.map fun x => x.1.2).reverse = lots := by
    have hk : ∀ k, k < n → 0 ≤ lots[n - 1 - k]?.getD 0 ∧ lots[n - 1 - k]?.getD 0 < (n : Int) := fun k hk => HM.out _ (by simp [show n - 1 - k < lots.length by omega])
    refine ⟨(List.range n).pmap (fun (k : Nat) (hk' : k < n) => (⟨((n : Int) - 1 - (k : Int), lots[n - 1 - k]?.getD 0), hk k hk'⟩ : Pn n)) (fun k hk' => List.mem_range.1 hk'), by simp, fun k h => by simp, fun k h => by simp, ?_⟩
    refine List.ext_getElem (by simp [hnl]) (fun i h1 h2 => ?_)
    simp [List.getElem_reverse, show n - 1 - (n - 1 - i) = i by omega, h2]
  refine callsIn_of_wp_marks Try.func51 rfl trivial ?_ hro
  simp only [Try.ntmps51, List.size_toArray, List.length_cons, List.length_nil, Nat.reduceAdd, Nat.reduceSub, Array.replicate_succ, Array.replicate_zero, List.push_toArray, List.append_toArray, List.nil_append, List.cons_append]
  gi_wp2
  refine ⟨trivial, ?_⟩
  gi_at_call 73
  refine (backward_in Fence.wide _ trivial hro _ _ _ _).mono ?_
  rintro e w' ⟨rfl, rfl⟩
  gi_wp2
  obtain ⟨g, hg⟩ : ∃ g, w.heap.size = g := ⟨_, rfl⟩
  obtain ⟨x1, x2, x3, x4⟩ := hxs
  have hmo : Try.prog.follows .mixedOrders = true := by kernel_rfl
  have bS := (((Boxed.new w 55 (.slice (some ⟨b, off, none⟩) n cap)).alloc (.cells #[.pointer none] 82)).alloc (.cells #[.pointer (some ⟨w.heap.size + 1, 0, none⟩)] 59)).alloc (.cells #[.slice al n cl] 23)
  have bT := ((Boxed.new (w.alloc (.cells #[.slice (some ⟨b, off, none⟩) n cap] 55)) 82 (.pointer none)).alloc (.cells #[.pointer (some ⟨w.heap.size + 1, 0, none⟩)] 59)).alloc (.cells #[.slice al n cl] 23)
  have bP := (Boxed.new ((w.alloc (.cells #[.slice (some ⟨b, off, none⟩) n cap] 55)).alloc (.cells #[.pointer none] 82)) 59 (.pointer (some ⟨w.heap.size + 1, 0, none⟩))).alloc (.cells #[.slice al n cl] 23)
  have bL := Boxed.new (((w.alloc (.cells #[.slice (some ⟨b, off, none⟩) n cap] 55)).alloc (.cells #[.pointer none] 82)).alloc (.cells #[.pointer (some ⟨w.heap.size + 1, 0, none⟩)] 59)) 23 (.slice al n cl)
  have hB0 : Below w.heap.size w ((((w.alloc (.cells #[.slice (some ⟨b, off, none⟩) n cap] 55)).alloc (.cells #[.pointer none] 82)).alloc (.cells #[.pointer (some ⟨w.heap.size + 1, 0, none⟩)] 59)).alloc (.cells #[.slice al n cl] 23)) :=
    ((((Below.refl _ w).alloc (Nat.le_refl _) _).alloc (by simp) _).alloc (by simp; omega) _).alloc (by simp; omega) _
  simp only [World.size_alloc] at bT bP bL
  obtain ⟨W0, hW0⟩ : ∃ W0, ((((w.alloc (.cells #[.slice (some ⟨b, off, none⟩) n cap] 55)).alloc (.cells #[.pointer none] 82)).alloc (.cells #[.pointer (some ⟨w.heap.size + 1, 0, none⟩)] 59)).alloc (.cells #[.slice al n cl] 23)) = W0 := ⟨_, rfl⟩
  have hsz : W0.heap.size = g + 4 := by rw [← hW0]; simp; omega
  rw [hW0] at bS bT bP bL hB0 ⊢
  rw [hg] at bS bT bP bL hb ⊢
  have hT0 : Stk W0 (g + 1) R [] (stR R []) := ⟨bT, trivial, List.nodup_nil⟩
  refine wpIn_rangeFunc_ownG hro (by omega) (gf := 85) (lb := #[.pointer (some ⟨g + 1 + 1 + 1, 0, none⟩)]) rfl trivial (enters_of Try.func85 (by kernel_rfl) rfl)
    (back_stops (fun x : Pn n => x.1.1) (fun x : Pn n => x.1.2) xs Fence.wide 8 trivial hro (by omega) (g + 1 + 1 + 1) al n cl lots x1 hn x2 x3 w W0 (by omega) hB0 bL.cell HI.out) KpB.trans (KpB.put (by omega) (by omega)) (Below.refl _ _) (fun _ => rfl)
    (fun pre W => ((Boxed W g 55 (.slice (some ⟨b, off, none⟩) n cap) ∧ Boxed W (g + 1 + 1) 59 (.pointer (some ⟨g + 1, 0, none⟩)) ∧ Boxed W (g + 1 + 1 + 1) 23 (.slice al n cl)) ∧ ∃ bs, Stk W (g + 1) R bs (stR R ((pre.map fun x : Pn n => x.1.2).reverse)) ∧ ∀ k ∈ bs, g + 4 ≤ k) ∧ Below g w W)
    (fun _ _ _ => False)
    (OwnFrom.and (OwnFrom.and (OwnFrom.and (Own.from (boxed_own g 55 (fun (_ : List (Pn n)) => .slice (some ⟨b, off, none⟩) n cap)) _) (OwnFrom.and (Own.from (boxed_own (g + 1 + 1) 59 (fun (_ : List (Pn n)) => .pointer (some ⟨g + 1, 0, none⟩))) _) (Own.from (boxed_own (g + 1 + 1 + 1) 23 (fun (_ : List (Pn n)) => .slice al n cl)) _))) (stk_own (g + 1) W0.heap.size R (fun (pre : List (Pn n)) => stR R ((pre.map fun x : Pn n => x.1.2).reverse)) (g + 4))) (ownFrom_below (by omega) (by omega)))
    (fun _ _ _ _ _ hs _ _ => hs)
    ⟨⟨⟨bS, bP, bL⟩, [], hT0, fun k hk => by cases hk⟩, hg ▸ hB0⟩
    (fun x => { tmps := #[.slice (some ⟨b, off, none⟩) n cap, .slice al n cl, .pointer (some ⟨g, 0, none⟩), undef, .pointer none, .pointer (some ⟨g + 1 + 1, 0, none⟩), undef, .int .i64 x.1.2, .agg #[.pointer none], .pointer (some ⟨g + 1, 0, none⟩), .slice al n cl,
      .func (.func 85) #[] #[.pointer (some ⟨g + 1 + 1 + 1, 0, none⟩)], .int .i64 x.1.1, .int .i64 x.1.2, undef, undef, undef, undef, undef, undef, undef, undef, undef, undef, undef], defers := [] }) ?assign ?body ?done ?stop
  case assign =>
    intro l z W K hK
    gi_wp2
    exact hK
  case body =>
    rintro l pre ⟨⟨ix, z⟩, hz0', hzm⟩ W ⟨⟨⟨hbs, hbp, hbl⟩, bs, hstk, hge⟩, hB⟩ hlt
    obtain ⟨p, rfl⟩ := Int.eq_ofNat_of_zero_le hz0'
    have hpn : p < n := by simp at hzm; omega
    have c1 := hbs.cell
    have c2 := hbp.cell
    have hBW : Below w.heap.size w W := hg.symm ▸ hB
    have c3 : W.cell? ⟨b, off + p * 2 + 1, none⟩ = some (.int .i64 (R (p : Int))) := by
      rw [← HR.out p hpn]
      exact (hBW.cell (p := ⟨b, off + p * 2 + 1, none⟩) (by rw [hg]; exact hb)).trans (HC.out p hpn).2
    obtain ⟨r, hr⟩ : ∃ r, R (p : Int) = r := ⟨_, rfl⟩
    rw [hr] at c3
    have hWs : g + 4 ≤ W.heap.size := by have := hbl.lt; omega
    have HA : Hid (Below W.heap.size W (W.alloc (.cells #[.int .i64 (p : Int), .int .i64 r, .pointer none] 63)).drew) := ((Below.refl W.heap.size W).alloc (Nat.le_refl _) _).drew
    have HN1 : Hid (Nd (W.alloc (.cells #[.int .i64 (p : Int), .int .i64 r, .pointer none] 63)).drew W.heap.size (p : Int) r (.pointer none)) := World.alloc_heap_new W _
    have HS1 := Lib.hid (hstk.below HA.out)
    have a2 : (W.alloc (.cells #[.int .i64 (p : Int), .int .i64 r, .pointer none] 63)).drew.cell? ⟨g + 1 + 1, 0, none⟩ = some (.pointer (some ⟨g + 1, 0, none⟩)) := (HA.out.cell (p := ⟨g + 1 + 1, 0, none⟩) hbp.lt).trans c2
    have HNB : Hid (W.heap.size ∉ bs) := fun hm => by
      obtain ⟨c, hc⟩ := hstk.lst.mem _ hm
      have := rb_lt hc
      omega
    have hpi : (p : Int) < (n : Int) := by omega
    have HEND : Hid (∀ bs' w3, Stk w3 (g + 1) R bs' (insR R (p : Int) (stR R ((pre.map fun x : Pn n => x.1.2).reverse))) → (∀ k, k ∈ bs' ↔ k = W.heap.size ∨ k ∈ bs) → Only (W.alloc (.cells #[.int .i64 (p : Int), .int .i64 r, .pointer none] 63)).drew w3 (g + 1) (W.heap.size :: bs) →
        KeepsFrom W0.heap.size W w3 ∧ KpB w.heap.size (g + 1 + 1 + 1) W w3 ∧ ((Boxed w3 g 55 (.slice (some ⟨b, off, none⟩) n cap) ∧ Boxed w3 (g + 1 + 1) 59 (.pointer (some ⟨g + 1, 0, none⟩)) ∧ Boxed w3 (g + 1 + 1 + 1) 23 (.slice al n cl)) ∧ ∃ bs, Stk w3 (g + 1) R bs (stR R (((pre ++ [(⟨(ix, (p : Int)), hz0', hzm⟩ : Pn n)]).map fun x : Pn n => x.1.2).reverse)) ∧ ∀ k ∈ bs, g + 4 ≤ k) ∧ Below g w w3) := fun bs' w3 hs hm ho => by
      have hlow : ∀ k ∈ W.heap.size :: bs, g + 4 ≤ k := fun k hk => by
        rcases List.mem_cons.1 hk with e | e
        · omega
        · exact hge k e
      have hsame : ∀ k, k < g + 4 → k ≠ g + 1 → w3.heap[k]? = W.heap[k]? := fun k hk hk1 => (ho.block k hk1 (fun hm => by have := hlow k hm; omega)).trans (HA.out.block k (by omega))
      have hBg : Below g W w3 := (HA.out.mono (by omega)).trans (ho.below (by omega) (fun k hk => by have := hlow k hk; omega))
      refine ⟨(((KeepsOthers.alloc W _).trans (KeepsOthers.drew _)).trans (ho.keeps (fun k hk => ?_))).from _, ⟨by rw [hg]; exact hBg, hsame _ (by omega) (by omega)⟩, ⟨⟨(hsame g (by omega) (by omega)).trans hbs, (hsame (g + 1 + 1) (by omega) (by omega)).trans hbp, (hsame (g + 1 + 1 + 1) (by omega) (by omega)).trans hbl⟩, bs', ?_, fun k hk => ?_⟩, hB.trans hBg⟩
      · rcases List.mem_cons.1 hk with e | e
        · subst e; exact ⟨_, _, _, HS1.out.top⟩
        · rcases List.mem_cons.1 e with e | e
          · subst e; exact ⟨_, _, _, HN1.out⟩
          · obtain ⟨c, hc⟩ := HS1.out.lst.mem k e
            exact ⟨_, _, _, hc⟩
      · rw [List.map_append, List.reverse_append]; exact hs
      · exact hlow k (List.mem_cons.2 ((hm k).1 hk))
    have HR1 := Lib.hid hr
    have HTS := Lib.hid hstk
    have HGE := Lib.hid hge
    clear hr hstk hge hbs hbp hbl hBW hlt hg hW0 hsz x1 x2 x3 x4 bS bT bP bL hB0 hT0 HC HI HM HR hnl hb
    gi_wp2_with fail
    refine wpIn_region_any hmo (wpAnyIn_of (fun i o ho c hc => ?_) (fun ⟨_, _, h⟩ => h) _ _ _ _ ?_)
    · have hm := Array.mem_of_getElem? ho
      simp only [List.mem_toArray, List.mem_cons, List.not_mem_nil, or_false] at hm
      rcases hm with rfl | rfl | rfl | rfl | rfl | rfl | rfl | rfl | rfl | rfl <;> cases hc
    try (change wpAny _ _ _ _ _ _ _ (World.drew _))
    refine wpAny_take (i := 1) (v := ?_) rfl (by kernel_rfl) (by kernel_rfl) (by kernel_rfl) (fun _ _ _ h => h) (Or.inl ⟨by rfl, ?_⟩) ?_
    rotate_left
    · intro w; go_simp; try with_reducible rfl
    refine wpAny_take (i := 3) (v := ?_) rfl (by kernel_rfl) (by kernel_rfl) (by kernel_rfl) (fun _ _ _ h => h) (Or.inl ⟨by rfl, ?_⟩) ?_
    rotate_left
    · intro w; go_simp; try with_reducible rfl
    refine wpAny_ready (rs := [0, 2]) (by kernel_rfl) (by simp) ?_
    refine AllReady.cons rfl (fun K hK => ?_) ?_
    · go_simp
      refine hK _ _ ?_
      clear hK K
      refine wpAny_ready (rs := [2]) (by kernel_rfl) (by simp) ?_
      refine AllReady.cons rfl (fun K hK => ?_) ?_
      · go_simp
        refine hK _ _ ?_
        clear hK K
        refine wpAny_ready (rs := [4]) (by kernel_rfl) (by simp) ?_
        refine AllReady.cons rfl (fun K hK => ?_) ?_
        · go_simp
          refine hK _ _ ?_
          clear hK K
          refine wpAny_ready (rs := [5]) (by kernel_rfl) (by simp) ?_
          refine AllReady.cons rfl (fun K hK => ?_) ?_
          · go_simp
            refine hK _ _ ?_
            clear hK K
            refine wpAny_ready (rs := [6]) (by kernel_rfl) (by simp) ?_
            refine AllReady.cons rfl (fun K hK => ?_) ?_
            · go_simp
              refine hK _ _ ?_
              clear hK K
              refine wpAny_take (i := 7) (v := ?_) rfl (by kernel_rfl) (by kernel_rfl) (by kernel_rfl) (fun _ _ _ h => h) (Or.inl ⟨by rfl, ?_⟩) ?_
              rotate_left
              · intro w; go_simp; try with_reducible rfl
              refine wpAny_ready (rs := [8]) (by kernel_rfl) (by simp) ?_
              refine AllReady.cons rfl (fun K hK => ?_) ?_
              · go_simp
                refine hK _ _ ?_
                clear hK K
                refine wpAny_ready (rs := [9]) (by kernel_rfl) (by simp) ?_
                refine AllReady.cons rfl (fun K hK => ?_) ?_
                · go_simp
                  go_at_call 74; refine (insert_as (g + 1) R _ bs W.heap.size (p : Int) r (.pointer none) _ HS1.out HN1.out HR1.out HNB.out).mono ?_; rintro e w3 ⟨rfl, bs', hs3, hm3, ho3⟩; try go_simp
                  refine hK _ _ ?_
                  clear hK K
                  refine wpAny_done (by kernel_rfl) ?_ _
                  exact HEND.out _ _ hs3 hm3 ho3
                exact AllReady.nil
              exact AllReady.nil
            exact AllReady.nil
          exact AllReady.nil
        exact AllReady.nil
      exact AllReady.nil
    refine AllReady.cons rfl (fun K hK => ?_) ?_
    · go_simp
      refine hK _ _ ?_
      clear hK K
      refine wpAny_ready (rs := [0, 4]) (by kernel_rfl) (by simp) ?_
      refine AllReady.cons rfl (fun K hK => ?_) ?_
      · go_simp
        refine hK _ _ ?_
        clear hK K
        refine wpAny_ready (rs := [4]) (by kernel_rfl) (by simp) ?_
        refine AllReady.cons rfl (fun K hK => ?_) ?_
        · go_simp
          refine hK _ _ ?_
          clear hK K
          refine wpAny_ready (rs := [5]) (by kernel_rfl) (by simp) ?_
          refine AllReady.cons rfl (fun K hK => ?_) ?_
          · go_simp
            refine hK _ _ ?_
            clear hK K
            refine wpAny_ready (rs := [6]) (by kernel_rfl) (by simp) ?_
            refine AllReady.cons rfl (fun K hK => ?_) ?_
            · go_simp
              refine hK _ _ ?_
              clear hK K
              refine wpAny_take (i := 7) (v := ?_) rfl (by kernel_rfl) (by kernel_rfl) (by kernel_rfl) (fun _ _ _ h => h) (Or.inl ⟨by rfl, ?_⟩) ?_
              rotate_left
              · intro w; go_simp; try with_reducible rfl
              refine wpAny_ready (rs := [8]) (by kernel_rfl) (by simp) ?_
              refine AllReady.cons rfl (fun K hK => ?_) ?_
              · go_simp
                refine hK _ _ ?_
                clear hK K
                refine wpAny_ready (rs := [9]) (by kernel_rfl) (by simp) ?_
                refine AllReady.cons rfl (fun K hK => ?_) ?_
                · go_simp
                  go_at_call 74; refine (insert_as (g + 1) R _ bs W.heap.size (p : Int) r (.pointer none) _ HS1.out HN1.out HR1.out HNB.out).mono ?_; rintro e w3 ⟨rfl, bs', hs3, hm3, ho3⟩; try go_simp
                  refine hK _ _ ?_
                  clear hK K
                  refine wpAny_done (by kernel_rfl) ?_ _
                  exact HEND.out _ _ hs3 hm3 ho3
                exact AllReady.nil
              exact AllReady.nil
            exact AllReady.nil
          exact AllReady.nil
        exact AllReady.nil
      refine AllReady.cons rfl (fun K hK => ?_) ?_
      · go_simp
        refine hK _ _ ?_
        clear hK K
        refine wpAny_ready (rs := [0, 5]) (by kernel_rfl) (by simp) ?_
        refine AllReady.cons rfl (fun K hK => ?_) ?_
        · go_simp
          refine hK _ _ ?_
          clear hK K
          refine wpAny_ready (rs := [5]) (by kernel_rfl) (by simp) ?_
          refine AllReady.cons rfl (fun K hK => ?_) ?_
          · go_simp
            refine hK _ _ ?_
            clear hK K
            refine wpAny_ready (rs := [6]) (by kernel_rfl) (by simp) ?_
            refine AllReady.cons rfl (fun K hK => ?_) ?_
            · go_simp
              refine hK _ _ ?_
              clear hK K
              refine wpAny_take (i := 7) (v := ?_) rfl (by kernel_rfl) (by kernel_rfl) (by kernel_rfl) (fun _ _ _ h => h) (Or.inl ⟨by rfl, ?_⟩) ?_
              rotate_left
              · intro w; go_simp; try with_reducible rfl
              refine wpAny_ready (rs := [8]) (by kernel_rfl) (by simp) ?_
              refine AllReady.cons rfl (fun K hK => ?_) ?_
              · go_simp
                refine hK _ _ ?_
                clear hK K
                refine wpAny_ready (rs := [9]) (by kernel_rfl) (by simp) ?_
                refine AllReady.cons rfl (fun K hK => ?_) ?_
                · go_simp
                  go_at_call 74; refine (insert_as (g + 1) R _ bs W.heap.size (p : Int) r (.pointer none) _ HS1.out HN1.out HR1.out HNB.out).mono ?_; rintro e w3 ⟨rfl, bs', hs3, hm3, ho3⟩; try go_simp
                  refine hK _ _ ?_
                  clear hK K
                  refine wpAny_done (by kernel_rfl) ?_ _
                  exact HEND.out _ _ hs3 hm3 ho3
                exact AllReady.nil
              exact AllReady.nil
            exact AllReady.nil
          exact AllReady.nil
        refine AllReady.cons rfl (fun K hK => ?_) ?_
        · go_simp
          refine hK _ _ ?_
          clear hK K
          refine wpAny_ready (rs := [0, 6]) (by kernel_rfl) (by simp) ?_
          refine AllReady.cons rfl (fun K hK => ?_) ?_
          · go_simp
            refine hK _ _ ?_
            clear hK K
            refine wpAny_ready (rs := [6]) (by kernel_rfl) (by simp) ?_
            refine AllReady.cons rfl (fun K hK => ?_) ?_
            · go_simp
              refine hK _ _ ?_
              clear hK K
              refine wpAny_take (i := 7) (v := ?_) rfl (by kernel_rfl) (by kernel_rfl) (by kernel_rfl) (fun _ _ _ h => h) (Or.inl ⟨by rfl, ?_⟩) ?_
              rotate_left
              · intro w; go_simp; try with_reducible rfl
              refine wpAny_ready (rs := [8]) (by kernel_rfl) (by simp) ?_
              refine AllReady.cons rfl (fun K hK => ?_) ?_
              · go_simp
                refine hK _ _ ?_
                clear hK K
                refine wpAny_ready (rs := [9]) (by kernel_rfl) (by simp) ?_
                refine AllReady.cons rfl (fun K hK => ?_) ?_
                · go_simp
                  go_at_call 74; refine (insert_as (g + 1) R _ bs W.heap.size (p : Int) r (.pointer none) _ HS1.out HN1.out HR1.out HNB.out).mono ?_; rintro e w3 ⟨rfl, bs', hs3, hm3, ho3⟩; try go_simp
                  refine hK _ _ ?_
                  clear hK K
                  refine wpAny_done (by kernel_rfl) ?_ _
                  exact HEND.out _ _ hs3 hm3 ho3
                exact AllReady.nil
              exact AllReady.nil
            exact AllReady.nil
          refine AllReady.cons rfl (fun K hK => ?_) ?_
          · go_simp
            refine hK _ _ ?_
            clear hK K
            refine wpAny_take (i := 7) (v := ?_) rfl (by kernel_rfl) (by kernel_rfl) (by kernel_rfl) (fun _ _ _ h => h) (Or.inl ⟨by rfl, ?_⟩) ?_
            rotate_left
            · intro w; go_simp; try with_reducible rfl
            refine wpAny_ready (rs := [0, 8]) (by kernel_rfl) (by simp) ?_
            refine AllReady.cons rfl (fun K hK => ?_) ?_
            · go_simp
              refine hK _ _ ?_
              clear hK K
              refine wpAny_ready (rs := [8]) (by kernel_rfl) (by simp) ?_
              refine AllReady.cons rfl (fun K hK => ?_) ?_
              · go_simp
                refine hK _ _ ?_
                clear hK K
                refine wpAny_ready (rs := [9]) (by kernel_rfl) (by simp) ?_
                refine AllReady.cons rfl (fun K hK => ?_) ?_
                · go_simp
                  go_at_call 74; refine (insert_as (g + 1) R _ bs W.heap.size (p : Int) r (.pointer none) _ HS1.out HN1.out HR1.out HNB.out).mono ?_; rintro e w3 ⟨rfl, bs', hs3, hm3, ho3⟩; try go_simp
                  refine hK _ _ ?_
                  clear hK K
                  refine wpAny_done (by kernel_rfl) ?_ _
                  exact HEND.out _ _ hs3 hm3 ho3
                exact AllReady.nil
              exact AllReady.nil
            refine AllReady.cons rfl (fun K hK => ?_) ?_
            · go_simp
              refine hK _ _ ?_
              clear hK K
              refine wpAny_ready (rs := [0]) (by kernel_rfl) (by simp) ?_
              refine AllReady.cons rfl (fun K hK => ?_) ?_
              · go_simp
                refine hK _ _ ?_
                clear hK K
                refine wpAny_ready (rs := [9]) (by kernel_rfl) (by simp) ?_
                refine AllReady.cons rfl (fun K hK => ?_) ?_
                · go_simp
                  go_at_call 74; refine (insert_as (g + 1) R _ bs W.heap.size (p : Int) r (.pointer none) _ HS1.out HN1.out HR1.out HNB.out).mono ?_; rintro e w3 ⟨rfl, bs', hs3, hm3, ho3⟩; try go_simp
                  refine hK _ _ ?_
                  clear hK K
                  refine wpAny_done (by kernel_rfl) ?_ _
                  exact HEND.out _ _ hs3 hm3 ho3
                exact AllReady.nil
              exact AllReady.nil
            exact AllReady.nil
          exact AllReady.nil
        exact AllReady.nil
      exact AllReady.nil
    exact AllReady.nil
  case done =>
    rintro D ys W hD rfl ⟨⟨⟨hbs, hbp, hbl⟩, bs, hstk, hge⟩, hB⟩ hK
    rw [x4] at hstk
    have c2 := hbp.cell
    obtain ⟨bs2, hs2, hk2⟩ := (stk_own (g + 1) W0.heap.size R (fun (_ : Unit) => stR R lots) (g + 4)).putObj (.deferred none) (s := ()) ⟨bs, hstk, hge⟩ hD hK rfl
    have HFIN : Hid (Stk (W.putObj D (.deferred none)) (g + 1) R bs2 (stR R lots) ∧ w.heap.size ≤ g + 1 ∧ (∀ k ∈ bs2, w.heap.size ≤ k) ∧ Below w.heap.size w (W.putObj D (.deferred none))) :=
      ⟨hs2, by omega, fun k hk => by have := hk2 k hk; omega, by rw [hg]; exact hB.trans (belowK_b (w := W0) (by omega) W D _ _ hD hK rfl rfl)⟩
    clear hstk hge hs2 hk2 hB hbs hbl
    gi_wp2
    refine ⟨by simp, .inl ⟨_, _, rfl, run_takeDeferred hK, ?_⟩⟩
    exact ⟨_, results_tmp rfl _ _ _, g + 1, bs2, rfl, HFIN.out⟩
  case stop =>
    rintro D c pre W _ _ h _
    exact h.elim

end Go.Proofs.Ytbcemgmfkddafaa
