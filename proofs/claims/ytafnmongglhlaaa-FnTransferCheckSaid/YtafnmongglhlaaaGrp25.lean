/-
  TransferSteps of impl: what it answers at all piles, lots and numbers, in memory of its own; it writes into no memory that was there.
  TransferWinners of both sides: what they answer at all piles, lots and numbers, in memory of their own; they write into no memory that was there.
  What the walks of the statements on transfers share.
-/
import Derived.Test.YtafnmongglhlaaaGrp24
import Derived.Test.YtafnmongglhlaaaGrp20
import Derived.Test.YtafnmongglhlaaaGrpS
import Derived.Test.YtafnmongglhlaaaGrp21
namespace Go.Proofs.Ytafnmongglhlaaa
open Go.RowKit

attribute [local go_sem] Oper.semAt_some

/-- The step that has been taken, and the queue behind it. -/
def CurQ (w : World) (G n Q : Nat) (L : Value) (gd : List (Nat × Nat)) (rest : List TfStp) (a : Option Addr) (l c : Nat) (x k : Int) (m : Bool) : Prop :=
  (rest = [] ∧ m = false) ∨ ∃ (s : TfStp) (r : List TfStp) (g : Nat × Nat) (gr : List (Nat × Nat)) (nb : List Nat), rest = s :: r ∧ m = true ∧ a = some ⟨g.1, 0, none⟩ ∧ l = n ∧ c = g.2 ∧ x = s.2.1 ∧ k = (s.2.2 : Int) ∧ QS w G n Q L nb gr r ∧ w.ownsRow G 40 2 (.slice (some ⟨g.1, 0, none⟩) n g.2) n (cellsF s.1) ∧ ((gd ++ g :: gr).map fun g => g.1).Nodup
theorem CurQ.chg {w w' : World} {G n Q b : Nat} {L : Value} {gd : List (Nat × Nat)} {rest : List TfStp} {a : Option Addr} {l c : Nat} {x k : Int} {m : Bool} {P : TypeId → Prop} (h : CurQ w G n Q L gd rest a l c x k m) (hc : Chg b P w w') (h1 : ¬ P 111) (h2 : ¬ P 119) (h3 : ¬ P 40) : CurQ w' G n Q L gd rest a l c x k m := by
  rcases h with h | ⟨s, r, g, gr, nb, e1, e2, e3, e4, e5, e6, e7, hq, ho, hn⟩
  · exact .inl h
  · exact .inr ⟨s, r, g, gr, nb, e1, e2, e3, e4, e5, e6, e7, hq.chg hc h1 h2 h3, owns_chg ho hc h3, hn⟩
theorem OwnSt.chg {w w' : World} {b base n cap : Nat} {a : Option Addr} {gs : List (Nat × Nat)} {ss : List TfStp} {P : TypeId → Prop} (h : OwnSt w base a cap n gs ss) (hc : Chg b P w w') (h1 : ¬ P 35) (h2 : ¬ P 40) : OwnSt w' base a cap n gs ss :=
  ⟨h.len, owns_chg h.outer hc h1, fun j g s a1 a2 => owns_chg (h.inner j g s a1 a2) hc h2, h.apart⟩
/-- **take**, whatever is left; gd lies ahead. -/
theorem take_any (G n Q : Nat) (L : Value) (nb : List Nat) (gd gl : List (Nat × Nat)) (ss : List TfStp) (w : World) (h : QS w G n Q L nb gl ss) (hbs : G ≤ w.heap.size) (hn : ((gd ++ gl).map fun g => g.1).Nodup) :
    Calls Try.prog 47 #[.pointer (some ⟨Q, 0, none⟩)] w fun e w' => ∃ a l c x k m, e = .returned (.tuple #[.agg #[.slice a l c, .int .i64 x, .int .i64 k], .bool m]) ∧ Hid (Chg G queP w w') ∧ Hid (CurQ w' G n Q L gd ss a l c x k m) := by
  cases ss with
  | nil =>
    have e1 : nb = [] := List.length_eq_zero_iff.1 (by rw [h.ln]; rfl)
    have e2 : gl = [] := List.length_eq_zero_iff.1 (by rw [h.lg]; rfl)
    subst e1; subst e2
    refine (take_no G n Q L w h).mono ?_
    rintro e w1 ⟨rfl, hb⟩
    exact ⟨none, 0, 0, 0, 0, false, rfl, Chg.of_below hb, .inl ⟨rfl, rfl⟩⟩
  | cons s r =>
    obtain ⟨cs, who, kind⟩ := s
    cases nb with
    | nil => have := h.ln; simp at this
    | cons b0 nb =>
      cases gl with
      | nil => have := h.lg; simp at this
      | cons g gl =>
        obtain ⟨g, c⟩ := g
        have hrow := h.row 0 (g, c) (cs, who, kind) rfl rfl
        refine (take_yes G n Q L b0 nb g c gl cs who kind r w h hbs).mono ?_
        rintro e w1 ⟨rfl, hq, hc⟩
        exact ⟨_, _, _, _, _, true, rfl, hc, .inr ⟨_, _, (g, c), gl, nb, rfl, rfl, rfl, rfl, rfl, rfl, rfl, hq, owns_chg hrow hc (by unfold queP; decide), hn⟩⟩

/-- The length of a slice. -/
def lenV : Value → Nat
  | .slice _ l _ => l
  | _ => 0
theorem Chg.row {w w' w'' : World} {base n s : Nat} {P : TypeId → Prop} {e : TypeId} {v : Value} {xs : List Value} (h : Chg base P w w') (ho : w'.ownsRow base e s v n xs) (hp : P e) (hg : w'.grownBy w'' v.ownBlock) : Chg base P w w'' :=
  h.trans ⟨hg.os, hg.tape, hg.output, hg.size, fun k hk hc => hg.block k hk (fun e1 => by
    rcases ho.2 with ⟨e2, _⟩ | ⟨g, cp, cur, e2, hb, hcur, _⟩
    · subst e2; cases e1
    · subst e2
      have e3 : (some k : Option Nat) = some g := e1
      injection e3 with e3
      subst e3
      rcases hc with h2 | h2
      · omega
      · exact h2 _ _ _ hcur hp)⟩
theorem OwnSt.aside {w : World} {base n cap bx o : Nat} {a : Option Addr} {gs : List (Nat × Nat)} {ss : List TfStp} {cu : Array Value} {v : Value} (h : OwnSt w base a cap n gs ss) (hb : w.heap[bx]? = some (Obj.cells cu 35 (0, 0))) (hne : (Value.slice a ss.length cap).ownBlock ≠ some bx) : OwnSt (w.setCell ⟨bx, o, none⟩ v) base a cap n gs ss :=
  ⟨h.len, h.outer.kept (row := some bx) ⟨rfl, rfl, rfl, by simp [World.setCell], fun k _ hk => blk_other (fun e => hk (by rw [e]))⟩ (.inr hne), fun j g s a1 a2 => owns_set_blk (h.inner j g s a1 a2) hb (by decide), h.apart⟩

set_option maxHeartbeats 2000000 in
theorem implSteps_no (a : Option Addr) (len cap : Nat) (ps : List Pl) (al : Option Addr) (n cl : Nat) (lots : List Int) (s : Int) (w : World) (h : IsPiles w a len cap ps) (hs : Small ps) (hl : IsInts w al n cl lots) (hv : transB ps lots s = false) :
    Calls Try.prog 14 #[.slice a len cap, .slice al n cl, .int .i64 s] w (ToldS w n [] false) := by
  have HI := Lib.hid h
  have HS := Lib.hid hs
  have HL := Lib.hid hl
  have HV := Lib.hid hv
  clear h hs hl hv
  go_enter Try.func14, Try.ntmps14
  go_wp2_with fail
  refine (queue_no _ _ _ ps _ _ _ lots s _ HI.out HS.out HL.out HV.out).mono ?_
  rintro e w1 ⟨rfl, hb⟩
  go_wp2
  go_ret2
  exact ⟨none, 0, [], rfl, OwnSt.start ⟨rfl, .inl ⟨rfl, rfl⟩⟩, hb⟩

set_option maxRecDepth 100000 in
set_option maxHeartbeats 4000000 in
/-- **TransferSteps** at valid arguments. -/
theorem implSteps_yes (a : Option Addr) (len cap : Nat) (ps : List Pl) (al : Option Addr) (n cl : Nat) (lots : List Int) (s : Nat) (all : List TfStp) (w : World) (h : IsPiles w a len cap ps) (hs : Small ps) (hl : IsInts w al n cl lots) (hv : transB ps lots (s : Int) = true) (hr : tfAll ps lots (s : Int) = all) :
    Calls Try.prog 14 #[.slice a len cap, .slice al n cl, .int .i64 (s : Int)] w (ToldS w n all true) := by
  obtain ⟨is, his, ht0, ht1, ht2⟩ := info_parts step_info
  obtain ⟨G, hG⟩ : ∃ G, w.heap.size = G := ⟨_, rfl⟩
  have hl5 := tfAll_short ps lots (s : Int)
  rw [hr] at hl5
  have hn5 := (lotsB_len ((transB_iff ps lots (s : Int)).1 hv).1).2
  rw [hl.1] at hn5
  have HI := Lib.hid h
  have HS := Lib.hid hs
  have HL := Lib.hid hl
  have HV := Lib.hid hv
  have HR := Lib.hid hr
  clear h hs hl hv hr
  go_enter Try.func14, Try.ntmps14
  go_wp2_with fail
  refine (queue_yes _ _ _ ps _ n _ lots s all _ HI.out HS.out HL.out HV.out HR.out).mono ?_
  rintro e w1 ⟨Q, L, nb, gl, rfl, hQ, hb⟩
  rw [hG] at hQ hb
  have hg1 : G ≤ w1.heap.size := by have := hb.size; omega
  have HQ1 := Lib.hid hQ
  have HB1 := Lib.hid hb
  clear hQ hb
  go_wp2_with (at_make; refine wpList_make_own _ rfl _ _ 27 rfl G 35 is (.agg #[.slice none 0 0, .int .i64 0, .int .i64 0]) 3 Try.underlying27 his ht0 ht1 .i64 .i64 _ n rfl rfl rfl (by rw [ht2]; omega) (by unfold maxLen; omega) hg1 ?_; intro w2 hown hgrow; have h12 : Below w1.heap.size w1 w2 := (Below.refl _ w1).grown hgrow (Nat.le_refl _) (fun k e => by cases e); have O2 := Lib.hid hown; have HQ2 := Lib.hid (HQ1.out.under h12); have HB2 := Lib.hid (HB1.out.trans (h12.mono hg1)); have hg2 : G ≤ w2.heap.size := (by have := h12.size; omega); clear hown hgrow h12)
  refine (take_any G n Q L nb [] gl all _ HQ2.out hg2 HQ2.out.apart).mono ?_
  rintro e w3 ⟨a0, l0, c0, x0, k0, m0, rfl, HC3, HQ3⟩
  obtain ⟨w4, hw4⟩ : ∃ w4, w3.alloc (.cells #[.slice a0 l0 c0, .int .i64 x0, .int .i64 k0] 35) = w4 := ⟨_, rfl⟩
  have b34 : Below w3.heap.size w3 w4 := by rw [← hw4]; exact (Below.refl _ _).alloc (Nat.le_refl _) _
  have C4 : Chg G queP w2 w4 := HC3.out.on b34
  have O4 : Hid (w4.ownsRow G 35 3 (.slice (some ⟨w1.heap.size, 0, none⟩) 0 n) 0 []) := owns_chg O2.out C4 (by unfold queP; decide)
  have HQ4 : Hid (CurQ w4 G n Q L [] all a0 l0 c0 x0 k0 m0) := HQ3.out.chg (b := G) (P := fun _ => False) (Chg.of_below b34) id id id
  have HB4 : Hid (Below G w w4) := HB2.out.trans (C4.below hg2)
  have hs23 := HC3.out.size
  have K4 : Hid (w4.heap[w3.heap.size]? = some (Obj.cells #[.slice a0 l0 c0, .int .i64 x0, .int .i64 k0] 35 (0, 0))) := by unfold Hid; rw [← hw4]; exact blk_new _ _
  have HNE : Hid ((Value.slice (some ⟨w1.heap.size, 0, none⟩) 0 n).ownBlock ≠ some w3.heap.size) := fun e => by
    have h1 := (O2.out.lt w1.heap.size rfl).2
    have h2 : (some w1.heap.size : Option Nat) = some w3.heap.size := e
    injection h2 with h2
    omega
  clear HC3 HQ3 O2 HB2 HQ2 b34 C4 hs23
  go_wp2_with fail
  clear hw4
  go_loopw [10, 11, 12] (fun sv bv mv wr => ∃ (done rest : List TfStp) (gd : List (Nat × Nat)) (aS : Option Addr) (cS bx : Nat) (av : Option Addr) (lv cv : Nat) (xv kv : Int) (mb : Bool), sv = .slice aS done.length cS ∧ bv = .pointer (some ⟨bx, 0, none⟩) ∧ mv = .bool mb ∧ Hid (done ++ rest = all) ∧ Hid (OwnSt wr G aS cS n gd done) ∧
    Hid (wr.heap[bx]? = some (Obj.cells #[.slice av lv cv, .int .i64 xv, .int .i64 kv] 35 (0, 0))) ∧ Hid ((Value.slice aS done.length cS).ownBlock ≠ some bx) ∧ Hid (CurQ wr G n Q L gd rest av lv cv xv kv mb) ∧ Hid (Below G w wr)) (fun sv _ _ _ => all.length - lenV sv)
  case atStart => exact ⟨[], all, [], _, _, _, _, _, _, _, _, _, rfl, rfl, rfl, rfl, OwnSt.start O4.out, K4, HNE, HQ4, HB4⟩
  case round =>
    clear O4 K4 HNE HQ4 HB4
    obtain ⟨done, rest, gd, aS, cS, bx, av, lv, cv, xv, kv, mb, rfl, rfl, rfl, hI, hO, hK, hne, hQ, hB⟩ := hrel
    rcases hQ.out with ⟨hr0, rfl⟩ | ⟨s, r, g, gr, nb', rfl, rfl, rfl, e4, rfl, rfl, rfl, hq, hrow, hnd⟩
    · have HE : Hid (done = all) := by have := hI.out; rw [hr0, List.append_nil] at this; exact this
      clear hI hQ hK hne
      go_wp2
      go_ret2
      rw [HE.out] at hO ⊢
      exact ⟨aS, cS, gd, rfl, hG ▸ hO.out, hG ▸ hB.out⟩
    · have e4 := e4.symm
      subst e4
      obtain ⟨cs, who, kind⟩ := s
      obtain ⟨g, c⟩ := g
      have hrow : wr.ownsRow G 40 2 (.slice (some ⟨g, 0, none⟩) n c) n (cellsF cs) := hrow
      have hal : done.length + (r.length + 1) = all.length := by rw [← hI.out]; simp
      have hgs : G ≤ wr.heap.size := by have := hB.out.size; rw [hG] at this; exact this
      have i0 : wr.cell? ⟨bx, 0, none⟩ = some (.slice (some ⟨g, 0, none⟩) n c) := blk_cell hK.out 0
      have i1 : wr.cell? ⟨bx, 1, none⟩ = some (.int .i64 who) := blk_cell hK.out 1
      have i2 : wr.cell? ⟨bx, 2, none⟩ = some (.int .i64 (kind : Int)) := blk_cell hK.out 2
      obtain ⟨wa, hwa⟩ : ∃ wa, wr.alloc (.cells #[.slice (some ⟨g, 0, none⟩) n c, .int .i64 who, .int .i64 (kind : Int)] 35) = wa := ⟨_, rfl⟩
      have ba : Below wr.heap.size wr wa := by rw [← hwa]; exact (Below.refl _ _).alloc (Nat.le_refl _) _
      have OA := Lib.hid (hO.out.under ba)
      have KA := Lib.hid (blk_under hK.out ba)
      have hga : G ≤ wa.heap.size := by have := ba.size; omega
      have HNW : Hid (∀ j u, [Value.slice (some ⟨g, 0, none⟩) n c, .int .i64 who, .int .i64 (kind : Int)][j]? = some u → wa.cell? ((⟨wr.heap.size, 0, none⟩ : Addr).add j) = some u) := by rw [← hwa]; exact three_cells _ _ _ _ _ _ _
      have QA := Lib.hid (hq.under ba)
      have RA := Lib.hid (owns_under hrow ba)
      have BA := Lib.hid (hB.out.trans (ba.mono hgs))
      have HND := Lib.hid hnd
      have HI4 := Lib.hid hI.out
      clear hO hK hq hrow hB ba hQ hnd hI
      go_wp2_with (at_builtin; refine wpList_append_own _ rfl _ _ 27 rfl G 35 is (.agg #[.slice none 0 0, .int .i64 0, .int .i64 0]) 3 40 Try.underlying27 his ht0 ht1 ht2 rfl (by decide) _ _ _ rfl OA.out.outer ⟨wr.heap.size, 0, none⟩ 1 1 [.slice (some ⟨g, 0, none⟩) n c, .int .i64 who, .int .i64 (kind : Int)] rfl rfl HNW.out (by simp [Value.oneCell']) (by unfold maxLen; omega) (by omega) hga ?_; intro v' w5 hown' hgrow _; obtain ⟨a5, c5, rfl⟩ := owns_slice hown'; have hcg := (Chg.refl G (fun e => e = 35) wa).row OA.out.outer rfl hgrow; have O5 := Lib.hid (OA.out.push (g := (g, c)) (s := (cs, who, kind)) RA.out (fun hm => by have h1 := HND.out; rw [List.map_append, List.nodup_append] at h1; exact h1.2.2 _ hm _ (by simp) rfl) hown' hgrow); have Q5 := Lib.hid (QA.out.chg hcg (by decide) (by decide) (by decide)); have K5 := Lib.hid ((hgrow.block bx (blk_lt KA.out) (fun e => hne.out e.symm)).trans KA.out); have B5 := Lib.hid (BA.out.trans (hcg.below hga)); have hg5 : G ≤ w5.heap.size := (by have := hcg.size; omega); have L5 := (fun k (hk : (Value.slice a5 (done.length + 1) c5).ownBlock = some k) => (hown'.lt k hk).2); have j0 : w5.cell? ⟨bx, 0, none⟩ = some (.slice (some ⟨g, 0, none⟩) n c) := blk_cell K5.out 0; have j1 : w5.cell? ⟨bx, 1, none⟩ = some (.int .i64 who) := blk_cell K5.out 1; have j2 : w5.cell? ⟨bx, 2, none⟩ = some (.int .i64 (kind : Int)) := blk_cell K5.out 2; clear hown' hgrow hcg)
      obtain ⟨bz, hbz⟩ : ∃ bz, w5.heap.size = bz := ⟨_, rfl⟩
      obtain ⟨w6, hw6⟩ : ∃ w6, w5.alloc (.cells #[.slice (some ⟨g, 0, none⟩) n c, .int .i64 who, .int .i64 (kind : Int)] 35) = w6 := ⟨_, rfl⟩
      have b56 : Below w5.heap.size w5 w6 := by rw [← hw6]; exact (Below.refl _ _).alloc (Nat.le_refl _) _
      have O6 := Lib.hid (O5.out.under b56)
      have Q6 := Lib.hid (Q5.out.under b56)
      have B6 := Lib.hid (B5.out.trans (b56.mono hg5))
      have K6 : w6.heap[w5.heap.size]? = some (Obj.cells #[.slice (some ⟨g, 0, none⟩) n c, .int .i64 who, .int .i64 (kind : Int)] 35 (0, 0)) := by rw [← hw6]; exact blk_new _ _
      have hg6 : G ≤ w6.heap.size := by have := b56.size; omega
      rw [hbz] at K6
      rw [hw6, hbz]
      clear O5 Q5 K5 B5 OA KA QA RA BA HNW j0 j1 j2 b56 hne i0 i1 i2
      refine (take_any G n Q L nb' (gd ++ [(g, c)]) gr r _ Q6.out hg6 (by have h1 := HND.out; rw [List.append_assoc]; exact h1)).mono ?_
      rintro e w7 ⟨a7, l7, c7, x7, k7, m7, rfl, HC7, HQ7⟩
      have O7 := Lib.hid (O6.out.chg HC7.out (by unfold queP; decide) (by unfold queP; decide))
      have K7 := blk_chg K6 HC7.out (by unfold queP; decide)
      have B7 := Lib.hid (B6.out.trans (HC7.out.below hg6))
      have v0 : w7.cell? ⟨bz, 0, none⟩ = _ := blk_cell K7 0
      have f0 : w7.frozen? ⟨bz, 0, none⟩ = false := blk_frozen K7 0
      have g4 := blk_set K7 0 (.slice a7 l7 c7)
      have v1 : (w7.setCell ⟨bz, 0, none⟩ (.slice a7 l7 c7)).cell? ⟨bz, 1, none⟩ = _ := blk_cell g4 1
      have f1 : (w7.setCell ⟨bz, 0, none⟩ (.slice a7 l7 c7)).frozen? ⟨bz, 1, none⟩ = false := blk_frozen g4 1
      have g5 := blk_set g4 1 (.int .i64 x7)
      have v2 : ((w7.setCell ⟨bz, 0, none⟩ (.slice a7 l7 c7)).setCell ⟨bz, 1, none⟩ (.int .i64 x7)).cell? ⟨bz, 2, none⟩ = _ := blk_cell g5 2
      have f2 : ((w7.setCell ⟨bz, 0, none⟩ (.slice a7 l7 c7)).setCell ⟨bz, 1, none⟩ (.int .i64 x7)).frozen? ⟨bz, 2, none⟩ = false := blk_frozen g5 2
      have g6 := blk_set g5 2 (.int .i64 k7)
      have hbg : G ≤ bz := by omega
      have hnz : (Value.slice a5 (done ++ [(cs, who, kind)]).length c5).ownBlock ≠ some bz := fun e => by
        rw [List.length_append] at e
        have := L5 bz e
        omega
      have O8 := Lib.hid (((O7.out.aside (o := 0) (v := .slice a7 l7 c7) K7 hnz).aside (o := 1) (v := .int .i64 x7) g4 hnz).aside (o := 2) (v := .int .i64 k7) g5 hnz)
      have C8 := (((Chg.refl G (fun e => e = 35) w7).set (o := 0) K7 hbg rfl (.slice a7 l7 c7)).set (o := 1) g4 hbg rfl (.int .i64 x7)).set (o := 2) g5 hbg rfl (.int .i64 k7)
      have Q8 := Lib.hid (HQ7.out.chg C8 (by decide) (by decide) (by decide))
      have B8 := Lib.hid (B7.out.trans (C8.below (by have := HC7.out.size; omega)))
      have G8 := Lib.hid g6
      have HNZ := Lib.hid hnz
      have HI8 : Hid ((done ++ [(cs, who, kind)]) ++ r = all) := by unfold Hid; rw [← HI4.out]; simp
      clear O6 Q6 B6 K6 HC7 HQ7 O7 B7 C8 g6 hnz
      go_wp2
      go_roundw
      case rel => exact ⟨done ++ [(cs, who, kind)], r, gd ++ [(g, c)], a5, c5, bz, a7, l7, c7, x7, k7, m7, by rw [List.length_append]; rfl, rfl, rfl, HI8, O8, by unfold Hid; simpa using G8.out, HNZ, Q8, B8⟩
      case measure => simp [lenV]; omega

/-- **TransferSteps**. -/
theorem implSteps_as (a : Option Addr) (len cap : Nat) (ps : List Pl) (al : Option Addr) (n cl : Nat) (lots : List Int) (s : Int) (all : List TfStp) (v : Bool) (w : World) (h : IsPiles w a len cap ps) (hs : Small ps) (hl : IsInts w al n cl lots) (hv : transB ps lots s = v) (hr : tfAll ps lots s = all) :
    Calls Try.prog 14 #[.slice a len cap, .slice al n cl, .int .i64 s] w (ToldS w n all v) := by
  cases v
  · rw [tfAll_no hv] at hr
    subst hr
    exact implSteps_no a len cap ps al n cl lots s w h hs hl hv
  · obtain ⟨-, -, h3, -, -⟩ := (transB_iff ps lots s).1 hv
    obtain ⟨S, rfl⟩ := Int.eq_ofNat_of_zero_le (show 0 ≤ s by omega)
    exact implSteps_yes a len cap ps al n cl lots S all w h hs hl hv hr

end Go.Proofs.Ytafnmongglhlaaa

namespace Go.Proofs.Ytafnmongglhlaaa
open Go.RowKit

attribute [local go_sem] Oper.semAt_some

theorem tfWin_take {all : List TfStp} {j : Nat} {cs : List Fr} {who : Int} {kind : Nat} (h : all[j]? = some (cs, who, kind)) : tfWin (all.take (j + 1)) = tfWin (all.take j) ++ (if kind = 2 then [] else [who]) := by
  obtain ⟨hl, he⟩ := List.getElem?_eq_some_iff.1 h
  rw [List.take_succ_eq_append_getElem hl, tfWin_app, he, tfWin_cons]
  split <;> simp [tfWin, winT]
theorem tfWin_short (l : List TfStp) : (tfWin l).length ≤ l.length := by
  induction l with
  | nil => simp [tfWin, winT]
  | cons t l ih => rw [tfWin_cons]; split <;> simp <;> omega
/-- The winners. -/
def tfWinners (ps : List Pl) (lots : List Int) (s : Int) : List Int := tfWin (tfAll ps lots s)
theorem tfWinners_short (ps : List Pl) (lots : List Int) (s : Int) : (tfWinners ps lots s).length ≤ 5 := Nat.le_trans (tfWin_short _) (tfAll_short ps lots s)

set_option maxRecDepth 100000 in
set_option maxHeartbeats 4000000 in
/-- **spec.TransferWinners**. -/
theorem specWinners_as (a : Option Addr) (len cap : Nat) (ps : List Pl) (al : Option Addr) (n cl : Nat) (lots : List Int) (s : Int) (r : List Int) (w : World) (h : IsPiles w a len cap ps) (hs : Small ps) (hl : IsInts w al n cl lots) (hr : tfWinners ps lots s = r) :
    Calls Try.prog 25 #[.slice a len cap, .slice al n cl, .int .i64 s] w fun e w' => ∃ a3 c3, e = .returned (.slice a3 r.length c3) ∧ w'.ownsRow w.heap.size 3 1 (.slice a3 r.length c3) r.length (r.map (Value.int .i64)) ∧ Below w.heap.size w w' := by
  obtain ⟨i0, hi, hz0, hz1, hz2⟩ := info_parts int_info
  obtain ⟨G, hG⟩ : ∃ G, w.heap.size = G := ⟨_, rfl⟩
  have HI := Lib.hid h
  have HS := Lib.hid hs
  have HL := Lib.hid hl
  have hln := hl.1
  have b0 : Below w.heap.size w (w.alloc (.cells #[] 3)) := (Below.refl _ _).alloc (Nat.le_refl _) _
  have o0 : (w.alloc (.cells #[] 3)).ownsRow w.heap.size 3 1 (.slice (some ⟨w.heap.size, 0, none⟩) 0 0) 0 [] := World.ownsRow_lit (base := w.heap.size) (e := 3) (size := 1) w #[] 0 (Nat.le_refl _) (by unfold maxLen; omega) rfl
  rw [hG] at o0 ⊢
  have B0 := Lib.hid b0
  have O0 := Lib.hid o0
  clear b0 o0
  clear h hs hl
  cases hv : transB ps lots s
  · have HV := Lib.hid hv
    have HR : Hid (r = []) := by unfold Hid; rw [← hr]; unfold tfWinners; rw [tfAll_no hv]; rfl
    clear hv hr
    go_enter Try.func25, Try.ntmps25
    go_wp2_with fail
    refine (ok15_as _ _ _ ps _ _ _ lots s false _ (HI.out.below B0.out) HS.out (HL.out.below B0.out) HV.out).mono ?_
    rintro e w1 ⟨rfl, hb⟩
    have B1 := Lib.hid (below_on B0.out hb)
    have O1 := Lib.hid (owns_under O0.out hb)
    clear hb
    go_wp2
    go_ret
    rw [HR.out]
    exact ⟨_, _, rfl, O1.out, hG ▸ B1.out⟩
  · obtain ⟨h1, h2, h3, h4, h5⟩ := (transB_iff ps lots s).1 hv
    obtain ⟨S, rfl⟩ := Int.eq_ofNat_of_zero_le (show 0 ≤ s by omega)
    have HV := Lib.hid hv
    have HA := Lib.hid (trans_arg hv)
    obtain ⟨all, hal⟩ : ∃ all, tfAll ps lots (S : Int) = all := ⟨_, rfl⟩
    have hal5 := tfAll_short ps lots (S : Int)
    rw [hal] at hal5
    have HR : Hid (tfWin all = r) := by unfold Hid; rw [← hr, ← hal]; rfl
    rw [tfAll_yes hv, Int.toNat_natCast, hln] at hal
    have HAL := Lib.hid hal
    rw [hln] at h2 h4
    have hn5 := (lotsB_len h1).2
    rw [hln] at hn5
    have H2 := Lib.hid h2
    clear hv hr hal h1 h2
    go_enter Try.func25, Try.ntmps25
    go_wp2_with fail
    refine (ok15_as _ _ _ ps _ _ _ lots (S : Int) true _ (HI.out.below B0.out) HS.out (HL.out.below B0.out) HV.out).mono ?_
    rintro e w1 ⟨rfl, hb⟩
    have B1 := Lib.hid (below_on B0.out hb)
    have O1 := Lib.hid (owns_under O0.out hb)
    clear hb O0 B0
    go_wp2_with fail
    refine (steps15_as _ _ _ ps _ n _ lots S _ all _ (HI.out.below B1.out) (HL.out.below B1.out) HA.out H2.out ⟨by omega, by omega, by omega⟩ rfl HAL.out).mono ?_
    rintro e w2 ⟨ar, cr, gl, rfl, ho, hb⟩
    have O2 := Lib.hid (owns_under O1.out hb)
    have B2 := Lib.hid (hG ▸ below_on B1.out hb)
    have IS := Lib.hid (ho.low (base' := G) (by have := B1.out.size; omega))
    clear ho hb O1 B1
    go_wp2
    go_loopw [7, 9] (fun ov iv wr => ∃ (j : Nat) (aO : Option Addr) (cO : Nat), j ≤ all.length ∧ iv = .int .i64 (j : Int) ∧ ov = .slice aO (tfWin (all.take j)).length cO ∧ Hid (wr.ownsRow G 3 1 (.slice aO (tfWin (all.take j)).length cO) (tfWin (all.take j)).length ((tfWin (all.take j)).map (Value.int .i64))) ∧ Hid (OwnSt wr G ar cr n gl all) ∧ Hid (Below G w wr)) (fun _ iv _ => all.length - (intOf iv).toNat)
    case atStart => exact ⟨0, _, _, Nat.zero_le _, rfl, rfl, O2, IS, B2⟩
    case round =>
      clear O2 IS B2
      obtain ⟨j, aO, cO, hj, rfl, rfl, hO, hS, hB⟩ := hrel
      have hgs : G ≤ wr.heap.size := by have := hB.out.size; omega
      by_cases hlt : j < all.length
      · obtain ⟨⟨cs, who, kind⟩, hst⟩ : ∃ st, all[j]? = some st := ⟨_, List.getElem?_eq_getElem hlt⟩
        obtain ⟨b, off, aj, lj, cj, rfl, hb, c0, c1, c2, -⟩ := (hS.out.is (by omega) (by omega)).at hst
        have c1 : wr.cell? ⟨b, off + j * 3 + 1, none⟩ = some (.int .i64 who) := c1
        have c2 : wr.cell? ⟨b, off + j * 3 + 2, none⟩ = some (.int .i64 (kind : Int)) := c2
        have HNX := Lib.hid (tfWin_take hst)
        have hji : (j : Int) < (all.length : Int) := by omega
        have hwl : (tfWin (all.take j)).length ≤ 5 := Nat.le_trans (tfWin_short _) (by rw [List.length_take]; omega)
        obtain ⟨acc, hacc⟩ : ∃ acc, tfWin (all.take j) = acc := ⟨_, rfl⟩
        rw [hacc] at hO HNX hwl
        rw [hacc]
        clear hst hacc c0
        by_cases hk : kind = 2
        · subst hk
          go_wp2
          go_roundw
          case rel => exact ⟨j + 1, aO, cO, by omega, by go_num, by rw [HNX.out]; simp, by rw [HNX.out]; simpa using hO, hS, hB⟩
          case measure => simp [intOf]; omega
        · have hkb : ((kind : Int) == 2) = false := beq_eq_false_iff_ne.2 (by omega)
          rw [if_neg hk] at HNX
          go_wp2_with (at_builtin; refine wpList_append_own _ rfl _ _ 24 rfl G 3 i0 (.int .i64 0) 1 8 Try.underlying24 hi hz0 hz1 hz2 rfl (by decide) _ _ _ rfl (hO.out.alloc _) ⟨wr.heap.size, 0, none⟩ 1 1 [.int .i64 who] rfl rfl (lits_new _ _ _) (by simp [Value.oneCell']) (by unfold maxLen; omega) (by omega) (by simp; omega) ?_; intro v' w4 hown' hgrow _; obtain ⟨a4, c4, rfl⟩ := owns_slice hown'; have b4 : Below wr.heap.size wr (wr.alloc (.cells #[.int .i64 who] 3)) := (Below.refl _ _).alloc (Nat.le_refl _) _; have hcg := Chg.row (P := fun e => e = 3) (Chg.of_below (base := G) b4) (hO.out.alloc (Obj.cells #[.int .i64 who] 3)) rfl hgrow; have O4 := Lib.hid hown'; have HC4 := Lib.hid hcg; clear hown' hgrow hcg b4)
          have S4 := Lib.hid (hS.out.chg HC4.out (by decide) (by decide))
          have B4 := Lib.hid (hB.out.trans (HC4.out.below hgs))
          clear hS hB hO HC4
          go_roundw
          case rel => exact ⟨j + 1, a4, c4, by omega, by go_num, by rw [HNX.out]; simp, by rw [HNX.out]; unfold Hid; simpa using O4.out, S4, B4⟩
          case measure => simp [intOf]; omega
      · obtain rfl : j = all.length := by omega
        have e : tfWin (all.take all.length) = r := by rw [List.take_length]; exact HR.out
        rw [e] at hO
        rw [e]
        go_wp2
        go_ret
        exact ⟨aO, cO, rfl, hO.out, hG ▸ hB.out⟩

/-- How many blocks hang behind a pointer. -/
def chainN (w : World) : Nat → Value → Nat
  | 0, _ => 0
  | f + 1, .pointer (some ⟨b, _, _⟩) => 1 + chainN w f ((w.cell? ⟨b, 3, none⟩).getD undef)
  | _ + 1, _ => 0
theorem QS.chain {w : World} {base n Q : Nat} {L : Value} {nb : List Nat} {gl : List (Nat × Nat)} {ss : List TfStp} (h : QS w base n Q L nb gl ss) : ∀ (f j : Nat), nb.length - j ≤ f → chainN w f (ptrN nb j) = nb.length - j
  | 0, j, hj => by simp [chainN]; omega
  | f + 1, j, hj => by
    by_cases hl : j < nb.length
    · have h1 := List.getElem?_eq_getElem hl
      have hg := List.getElem?_eq_getElem (l := gl) (i := j) (by rw [h.lg, ← h.ln]; exact hl)
      have hs := List.getElem?_eq_getElem (l := ss) (i := j) (by rw [← h.ln]; exact hl)
      have h3 : w.cell? ⟨nb[j], 3, none⟩ = some (ptrN nb (j + 1)) := blk_cell (h.node j _ _ _ h1 hg hs) 3
      have e : ptrN nb j = .pointer (some ⟨nb[j], 0, none⟩) := by unfold ptrN; rw [h1]
      rw [e]
      show 1 + chainN w f ((w.cell? ⟨nb[j], 3, none⟩).getD undef) = _
      rw [h3]
      show 1 + chainN w f (ptrN nb (j + 1)) = _
      rw [h.chain f (j + 1) (by omega)]
      omega
    · rw [ptrN_end (by omega)]
      show 0 = _
      omega
/-- How many steps are left. -/
def leftQ (w : World) (Q : Nat) : Value → Nat
  | .bool true => chainN w 6 ((w.cell? ⟨Q, 0, none⟩).getD undef) + 1
  | _ => 0
theorem CurQ.left {w : World} {G n Q : Nat} {L : Value} {gd : List (Nat × Nat)} {rest : List TfStp} {a : Option Addr} {l c : Nat} {x k : Int} {m : Bool} (h : CurQ w G n Q L gd rest a l c x k m) (hr : rest.length ≤ 5) : leftQ w Q (.bool m) = rest.length := by
  rcases h with ⟨e1, e2⟩ | ⟨s, r, g, gr, nb, e1, e2, _, _, _, _, _, hq, _, _⟩
  · subst e1; subst e2; rfl
  · subst e1; subst e2
    show chainN w 6 ((w.cell? ⟨Q, 0, none⟩).getD undef) + 1 = _
    rw [blk_cell hq.blk 0]
    show chainN w 6 (ptrN nb 0) + 1 = _
    have := hq.ln
    simp at hr
    rw [hq.chain 6 0 (by omega)]
    simp; omega

set_option maxHeartbeats 2000000 in
theorem implWinners_no (a : Option Addr) (len cap : Nat) (ps : List Pl) (al : Option Addr) (n cl : Nat) (lots : List Int) (s : Int) (w : World) (h : IsPiles w a len cap ps) (hs : Small ps) (hl : IsInts w al n cl lots) (hv : transB ps lots s = false) :
    Calls Try.prog 17 #[.slice a len cap, .slice al n cl, .int .i64 s] w fun e w' => e = .returned (.slice none 0 0) ∧ Below w.heap.size w w' := by
  have HI := Lib.hid h
  have HS := Lib.hid hs
  have HL := Lib.hid hl
  have HV := Lib.hid hv
  clear h hs hl hv
  go_enter Try.func17, Try.ntmps17
  go_wp2_with fail
  refine (queue_no _ _ _ ps _ _ _ lots s _ HI.out HS.out HL.out HV.out).mono ?_
  rintro e w1 ⟨rfl, hb⟩
  go_wp2
  go_ret
  exact ⟨rfl, hb⟩

set_option maxRecDepth 100000 in
set_option maxHeartbeats 4000000 in
theorem implWinners_yes (a : Option Addr) (len cap : Nat) (ps : List Pl) (al : Option Addr) (n cl : Nat) (lots : List Int) (s : Nat) (r : List Int) (w : World) (h : IsPiles w a len cap ps) (hs : Small ps) (hl : IsInts w al n cl lots) (hv : transB ps lots (s : Int) = true) (hr : tfWinners ps lots (s : Int) = r) :
    Calls Try.prog 17 #[.slice a len cap, .slice al n cl, .int .i64 (s : Int)] w fun e w' => ∃ a3 c3, e = .returned (.slice a3 r.length c3) ∧ w'.ownsRow w.heap.size 3 1 (.slice a3 r.length c3) r.length (r.map (Value.int .i64)) ∧ Below w.heap.size w w' := by
  obtain ⟨i0, hi, hz0, hz1, hz2⟩ := info_parts int_info
  obtain ⟨G, hG⟩ : ∃ G, w.heap.size = G := ⟨_, rfl⟩
  obtain ⟨h1, h2, h3, h4, h5⟩ := (transB_iff ps lots (s : Int)).1 hv
  obtain ⟨all, hal⟩ : ∃ all, tfAll ps lots (s : Int) = all := ⟨_, rfl⟩
  have hal5 := tfAll_short ps lots (s : Int)
  rw [hal] at hal5
  have HR : Hid (tfWin all = r) := by unfold Hid; rw [← hr, ← hal]; rfl
  have HI := Lib.hid h
  have HS := Lib.hid hs
  have HL := Lib.hid hl
  have HV := Lib.hid hv
  have HAL := Lib.hid hal
  clear h hs hl hv hr h1 h2 h4 h5 hal
  go_enter Try.func17, Try.ntmps17
  go_wp2_with fail
  refine (queue_yes _ _ _ ps _ n _ lots s all _ HI.out HS.out HL.out HV.out HAL.out).mono ?_
  rintro e w1 ⟨Q, L, nb, gl, rfl, hQ, hb⟩
  rw [hG] at hQ hb
  have hg1 : G ≤ w1.heap.size := by have := hb.size; omega
  have HQ1 := Lib.hid hQ
  have HB1 := Lib.hid hb
  clear hQ hb
  go_wp2_with (at_make; refine wpList_make_own _ rfl _ _ 24 rfl G 3 i0 (.int .i64 0) 1 Try.underlying24 hi hz0 hz1 .i64 .i64 _ s rfl rfl rfl (by rw [hz2]; omega) (by unfold maxLen; omega) hg1 ?_; intro w2 hown hgrow; have h12 : Below w1.heap.size w1 w2 := (Below.refl _ w1).grown hgrow (Nat.le_refl _) (fun k e => by cases e); have O2 := Lib.hid hown; have HQ2 := Lib.hid (HQ1.out.under h12); have HB2 := Lib.hid (HB1.out.trans (h12.mono hg1)); have hg2 : G ≤ w2.heap.size := (by have := h12.size; omega); clear hown hgrow h12)
  refine (take_any G n Q L nb [] gl all _ HQ2.out hg2 HQ2.out.apart).mono ?_
  rintro e w3 ⟨a0, l0, c0, x0, k0, m0, rfl, HC3, HQ3⟩
  obtain ⟨w4, hw4⟩ : ∃ w4, w3.alloc (.cells #[.slice a0 l0 c0, .int .i64 x0, .int .i64 k0] 35) = w4 := ⟨_, rfl⟩
  have b34 : Below w3.heap.size w3 w4 := by rw [← hw4]; exact (Below.refl _ _).alloc (Nat.le_refl _) _
  have C4 : Chg G queP w2 w4 := HC3.out.on b34
  have O4 : Hid (w4.ownsRow G 3 1 (.slice (some ⟨w1.heap.size, 0, none⟩) 0 s) 0 []) := owns_chg O2.out C4 (by unfold queP; decide)
  have HQ4 : Hid (CurQ w4 G n Q L [] all a0 l0 c0 x0 k0 m0) := HQ3.out.chg (b := G) (P := fun _ => False) (Chg.of_below b34) id id id
  have HB4 : Hid (Below G w w4) := HB2.out.trans (C4.below hg2)
  have K4 : Hid (w4.heap[w3.heap.size]? = some (Obj.cells #[.slice a0 l0 c0, .int .i64 x0, .int .i64 k0] 35 (0, 0))) := by unfold Hid; rw [← hw4]; exact blk_new _ _
  clear HC3 HQ3 O2 HB2 HQ2 b34 C4
  go_wp2_with fail
  clear hw4
  go_loopw [9, 10, 11] (fun ov bv mv wr => ∃ (done rest : List TfStp) (aO : Option Addr) (cO bx : Nat) (av : Option Addr) (lv cv : Nat) (xv kv : Int) (mb : Bool), ov = .slice aO (tfWin done).length cO ∧ bv = .pointer (some ⟨bx, 0, none⟩) ∧ mv = .bool mb ∧ Hid (done ++ rest = all) ∧ Hid (wr.ownsRow G 3 1 (.slice aO (tfWin done).length cO) (tfWin done).length ((tfWin done).map (Value.int .i64))) ∧
    Hid (wr.heap[bx]? = some (Obj.cells #[.slice av lv cv, .int .i64 xv, .int .i64 kv] 35 (0, 0))) ∧ Hid (CurQ wr G n Q L [] rest av lv cv xv kv mb) ∧ Hid (Below G w wr)) (fun _ _ mv wr => leftQ wr Q mv)
  case atStart => exact ⟨[], all, _, _, _, _, _, _, _, _, _, rfl, rfl, rfl, rfl, O4, K4, HQ4, HB4⟩
  case round =>
    clear O4 K4 HQ4 HB4
    obtain ⟨done, rest, aO, cO, bx, av, lv, cv, xv, kv, mb, rfl, rfl, rfl, hI, hO, hK, hQ, hB⟩ := hrel
    have hrl : rest.length ≤ 5 := by have h1 := congrArg List.length hI.out; rw [List.length_append] at h1; omega
    have HLF := Lib.hid (hQ.out.left hrl)
    rcases hQ.out with ⟨hr0, rfl⟩ | ⟨st, r2, g, gr, nb', rfl, rfl, rfl, e4, rfl, rfl, rfl, hq, hrow, hnd⟩
    · have HE : Hid (tfWin done = r) := by have := hI.out; rw [hr0, List.append_nil] at this; rw [this]; exact HR.out
      clear hI hQ hK HLF
      rw [HE.out] at hO ⊢
      go_wp2
      go_ret
      exact ⟨aO, cO, rfl, hG ▸ hO.out, hG ▸ hB.out⟩
    · have e4 := e4.symm
      subst e4
      obtain ⟨cs, who, kind⟩ := st
      obtain ⟨g, c⟩ := g
      have hgs : G ≤ wr.heap.size := by have := hB.out.size; rw [hG] at this; exact this
      have i0' : wr.cell? ⟨bx, 0, none⟩ = some (.slice (some ⟨g, 0, none⟩) n c) := blk_cell hK.out 0
      have i1 : wr.cell? ⟨bx, 1, none⟩ = some (.int .i64 who) := blk_cell hK.out 1
      have i2 : wr.cell? ⟨bx, 2, none⟩ = some (.int .i64 (kind : Int)) := blk_cell hK.out 2
      have HI8 : Hid ((done ++ [(cs, who, kind)]) ++ r2 = all) := by unfold Hid; rw [← hI.out]; simp
      have HQ := Lib.hid hq
      have HNX : Hid (tfWin (done ++ [(cs, who, kind)]) = tfWin done ++ (if kind = 2 then [] else [who])) := by
        unfold Hid; rw [tfWin_app, tfWin_cons]; split <;> simp [tfWin, winT]
      have hwl : (tfWin done).length ≤ 5 := by
        have h0 := tfWin_short done
        have h1 := congrArg List.length HI8.out
        rw [List.length_append, List.length_append] at h1
        omega
      obtain ⟨acc, hacc⟩ : ∃ acc, tfWin done = acc := ⟨_, rfl⟩
      rw [hacc] at hO HNX hwl
      rw [hacc]
      clear hrow hq hnd hQ hI hacc
      by_cases hk : kind = 2
      · subst hk
        have OQ := Lib.hid hO.out
        have QQ := Lib.hid HQ.out
        have BQ := Lib.hid hB.out
        have hgq := hgs
        clear hO HQ hB
        go_wp2_with fail
        rename World => wq
        obtain ⟨bz, hbz⟩ : ∃ bz, wq.heap.size = bz := ⟨_, rfl⟩
        obtain ⟨w6, hw6⟩ : ∃ w6, wq.alloc (.cells #[.slice (some ⟨g, 0, none⟩) n c, .int .i64 who, .int .i64 2] 35) = w6 := ⟨_, rfl⟩
        have b56 : Below wq.heap.size wq w6 := by rw [← hw6]; exact (Below.refl _ _).alloc (Nat.le_refl _) _
        have O6 := Lib.hid (owns_under OQ.out b56)
        have Q6 := Lib.hid (QQ.out.under b56)
        have B6 := Lib.hid (BQ.out.trans (b56.mono hgq))
        have K6 : w6.heap[wq.heap.size]? = some (Obj.cells #[.slice (some ⟨g, 0, none⟩) n c, .int .i64 who, .int .i64 2] 35 (0, 0)) := by rw [← hw6]; exact blk_new _ _
        have hg6 : G ≤ w6.heap.size := by have := b56.size; omega
        rw [hbz] at K6
        rw [hw6, hbz]
        clear OQ QQ BQ b56
        refine (take_any G n Q L nb' [] gr r2 _ Q6.out hg6 Q6.out.apart).mono ?_
        rintro e w7 ⟨a7, l7, c7, x7, k7, m7, rfl, HC7, HQ7⟩
        have O7 := Lib.hid (owns_chg O6.out HC7.out (by unfold queP; decide))
        have K7 := blk_chg K6 HC7.out (by unfold queP; decide)
        have B7 := Lib.hid (B6.out.trans (HC7.out.below hg6))
        have v0 : w7.cell? ⟨bz, 0, none⟩ = _ := blk_cell K7 0
        have f0 : w7.frozen? ⟨bz, 0, none⟩ = false := blk_frozen K7 0
        have g4 := blk_set K7 0 (.slice a7 l7 c7)
        have v1 : (w7.setCell ⟨bz, 0, none⟩ (.slice a7 l7 c7)).cell? ⟨bz, 1, none⟩ = _ := blk_cell g4 1
        have f1 : (w7.setCell ⟨bz, 0, none⟩ (.slice a7 l7 c7)).frozen? ⟨bz, 1, none⟩ = false := blk_frozen g4 1
        have g5 := blk_set g4 1 (.int .i64 x7)
        have v2 : ((w7.setCell ⟨bz, 0, none⟩ (.slice a7 l7 c7)).setCell ⟨bz, 1, none⟩ (.int .i64 x7)).cell? ⟨bz, 2, none⟩ = _ := blk_cell g5 2
        have f2 : ((w7.setCell ⟨bz, 0, none⟩ (.slice a7 l7 c7)).setCell ⟨bz, 1, none⟩ (.int .i64 x7)).frozen? ⟨bz, 2, none⟩ = false := blk_frozen g5 2
        have g6 := blk_set g5 2 (.int .i64 k7)
        have hbg : G ≤ bz := by omega
        have C8 := (((Chg.refl G (fun e => e = 35) w7).set (o := 0) K7 hbg rfl (.slice a7 l7 c7)).set (o := 1) g4 hbg rfl (.int .i64 x7)).set (o := 2) g5 hbg rfl (.int .i64 k7)
        have O8 := Lib.hid (owns_chg O7.out C8 (by decide))
        have Q8 := Lib.hid (HQ7.out.chg C8 (by decide) (by decide) (by decide))
        have B8 := Lib.hid (B7.out.trans (C8.below (by have := HC7.out.size; omega)))
        have G8 := Lib.hid g6
        have hrl2 : r2.length ≤ 5 := by simp at hrl; omega
        have HL8 := Lib.hid (Q8.out.left hrl2)
        clear O6 Q6 B6 K6 HC7 HQ7 O7 B7 C8 g6
        go_wp2
        go_roundw
        case rel => exact ⟨done ++ [(cs, who, 2)], r2, aO, cO, bz, a7, l7, c7, x7, k7, m7, by rw [HNX.out]; simp, rfl, rfl, HI8, by rw [HNX.out]; unfold Hid; simpa using O8.out, by unfold Hid; simpa using G8.out, Q8, B8⟩
        case measure =>
          rw [HLF.out, HL8.out]; simp
      · have hkb : ((kind : Int) == 2) = false := beq_eq_false_iff_ne.2 (by omega)
        rw [if_neg hk] at HNX
        go_wp2_with (at_builtin; refine wpList_append_own _ rfl _ _ 24 rfl G 3 i0 (.int .i64 0) 1 8 Try.underlying24 hi hz0 hz1 hz2 rfl (by decide) _ _ _ rfl (hO.out.alloc _) ⟨wr.heap.size, 0, none⟩ 1 1 [.int .i64 who] rfl rfl (lits_new _ _ _) (by simp [Value.oneCell']) (by unfold maxLen; omega) (by omega) (by simp; omega) ?_; intro v' wq hown' hgrow _; obtain ⟨a5, c5, rfl⟩ := owns_slice hown'; have b4 : Below wr.heap.size wr (wr.alloc (.cells #[.int .i64 who] 3)) := (Below.refl _ _).alloc (Nat.le_refl _) _; have hcg := Chg.row (P := fun e => e = 3) (Chg.of_below (base := G) b4) (hO.out.alloc (Obj.cells #[.int .i64 who] 3)) rfl hgrow; have OQ := Lib.hid hown'; have HC4 := Lib.hid hcg; have KQ := blk_chg hK.out hcg (by decide); have j0 : wq.cell? ⟨bx, 0, none⟩ = some (.slice (some ⟨g, 0, none⟩) n c) := blk_cell KQ 0; have j1 : wq.cell? ⟨bx, 1, none⟩ = some (.int .i64 who) := blk_cell KQ 1; have j2 : wq.cell? ⟨bx, 2, none⟩ = some (.int .i64 (kind : Int)) := blk_cell KQ 2; clear hown' hgrow hcg b4 KQ)
        have QQ := Lib.hid (HQ.out.chg HC4.out (by decide) (by decide) (by decide))
        have BQ := Lib.hid (hB.out.trans (HC4.out.below hgs))
        have hgq : G ≤ wq.heap.size := by have := HC4.out.size; omega
        clear hO HQ hB HC4 j0 j1 j2
        obtain ⟨bz, hbz⟩ : ∃ bz, wq.heap.size = bz := ⟨_, rfl⟩
        obtain ⟨w6, hw6⟩ : ∃ w6, wq.alloc (.cells #[.slice (some ⟨g, 0, none⟩) n c, .int .i64 who, .int .i64 (kind : Int)] 35) = w6 := ⟨_, rfl⟩
        have b56 : Below wq.heap.size wq w6 := by rw [← hw6]; exact (Below.refl _ _).alloc (Nat.le_refl _) _
        have O6 := Lib.hid (owns_under OQ.out b56)
        have Q6 := Lib.hid (QQ.out.under b56)
        have B6 := Lib.hid (BQ.out.trans (b56.mono hgq))
        have K6 : w6.heap[wq.heap.size]? = some (Obj.cells #[.slice (some ⟨g, 0, none⟩) n c, .int .i64 who, .int .i64 (kind : Int)] 35 (0, 0)) := by rw [← hw6]; exact blk_new _ _
        have hg6 : G ≤ w6.heap.size := by have := b56.size; omega
        rw [hbz] at K6
        rw [hw6, hbz]
        clear OQ QQ BQ b56
        refine (take_any G n Q L nb' [] gr r2 _ Q6.out hg6 Q6.out.apart).mono ?_
        rintro e w7 ⟨a7, l7, c7, x7, k7, m7, rfl, HC7, HQ7⟩
        have O7 := Lib.hid (owns_chg O6.out HC7.out (by unfold queP; decide))
        have K7 := blk_chg K6 HC7.out (by unfold queP; decide)
        have B7 := Lib.hid (B6.out.trans (HC7.out.below hg6))
        have v0 : w7.cell? ⟨bz, 0, none⟩ = _ := blk_cell K7 0
        have f0 : w7.frozen? ⟨bz, 0, none⟩ = false := blk_frozen K7 0
        have g4 := blk_set K7 0 (.slice a7 l7 c7)
        have v1 : (w7.setCell ⟨bz, 0, none⟩ (.slice a7 l7 c7)).cell? ⟨bz, 1, none⟩ = _ := blk_cell g4 1
        have f1 : (w7.setCell ⟨bz, 0, none⟩ (.slice a7 l7 c7)).frozen? ⟨bz, 1, none⟩ = false := blk_frozen g4 1
        have g5 := blk_set g4 1 (.int .i64 x7)
        have v2 : ((w7.setCell ⟨bz, 0, none⟩ (.slice a7 l7 c7)).setCell ⟨bz, 1, none⟩ (.int .i64 x7)).cell? ⟨bz, 2, none⟩ = _ := blk_cell g5 2
        have f2 : ((w7.setCell ⟨bz, 0, none⟩ (.slice a7 l7 c7)).setCell ⟨bz, 1, none⟩ (.int .i64 x7)).frozen? ⟨bz, 2, none⟩ = false := blk_frozen g5 2
        have g6 := blk_set g5 2 (.int .i64 k7)
        have hbg : G ≤ bz := by omega
        have C8 := (((Chg.refl G (fun e => e = 35) w7).set (o := 0) K7 hbg rfl (.slice a7 l7 c7)).set (o := 1) g4 hbg rfl (.int .i64 x7)).set (o := 2) g5 hbg rfl (.int .i64 k7)
        have O8 := Lib.hid (owns_chg O7.out C8 (by decide))
        have Q8 := Lib.hid (HQ7.out.chg C8 (by decide) (by decide) (by decide))
        have B8 := Lib.hid (B7.out.trans (C8.below (by have := HC7.out.size; omega)))
        have G8 := Lib.hid g6
        have hrl2 : r2.length ≤ 5 := by simp at hrl; omega
        have HL8 := Lib.hid (Q8.out.left hrl2)
        clear O6 Q6 B6 K6 HC7 HQ7 O7 B7 C8 g6
        go_wp2
        go_roundw
        case rel => exact ⟨done ++ [(cs, who, kind)], r2, a5, c5, bz, a7, l7, c7, x7, k7, m7, by rw [HNX.out]; simp, rfl, rfl, HI8, by rw [HNX.out]; unfold Hid; simpa using O8.out, by unfold Hid; simpa using G8.out, Q8, B8⟩
        case measure =>
          rw [HLF.out, HL8.out]; simp

/-- **impl.TransferWinners**. -/
theorem implWinners_as (a : Option Addr) (len cap : Nat) (ps : List Pl) (al : Option Addr) (n cl : Nat) (lots : List Int) (s : Int) (r : List Int) (w : World) (h : IsPiles w a len cap ps) (hs : Small ps) (hl : IsInts w al n cl lots) (hr : tfWinners ps lots s = r) :
    Calls Try.prog 17 #[.slice a len cap, .slice al n cl, .int .i64 s] w fun e w' => ∃ a3 c3, e = .returned (.slice a3 r.length c3) ∧ w'.ownsRow w.heap.size 3 1 (.slice a3 r.length c3) r.length (r.map (Value.int .i64)) ∧ Below w.heap.size w w' := by
  cases hv : transB ps lots s
  · have hr0 : r = [] := by rw [← hr]; unfold tfWinners; rw [tfAll_no hv]; rfl
    subst hr0
    refine (implWinners_no a len cap ps al n cl lots s w h hs hl hv).mono ?_
    rintro e w1 ⟨rfl, hb⟩
    exact ⟨none, 0, rfl, ⟨rfl, .inl ⟨rfl, rfl⟩⟩, hb⟩
  · obtain ⟨-, -, h3, -, -⟩ := (transB_iff ps lots s).1 hv
    obtain ⟨S, rfl⟩ := Int.eq_ofNat_of_zero_le (show 0 ≤ s by omega)
    exact implWinners_yes a len cap ps al n cl lots S r w h hs hl hv hr

end Go.Proofs.Ytafnmongglhlaaa

namespace Go.Proofs.Ytafnmongglhlaaa
open Go.RowKit

theorem drop_at {α : Type} {l : List α} {i : Nat} {t : α} (h : l[i]? = some t) : l.drop i = t :: l.drop (i + 1) := by
  obtain ⟨hi, e⟩ := List.getElem?_eq_some_iff.1 h
  rw [List.drop_eq_getElem_cons hi, e]

end Go.Proofs.Ytafnmongglhlaaa
