/-
  Piles, as lists: valid ones, adding, merging, exchanging, totals. Of no memory.
-/
import Derived.Test.YteomnjakcnfchaaTxtP
import Derived.Laws.Strings
namespace Go.Proofs.Yteomnjakcnfchaa

/-- The order of texts, byte by byte. -/
theorem bl_irrefl : ∀ x : List UInt8, Op.bytesLess x x = false
  | [] => rfl
  | a :: x => by simp [Op.bytesLess, bl_irrefl x]
theorem bl_trans : ∀ x y z : List UInt8, Op.bytesLess x y = true → Op.bytesLess y z = true → Op.bytesLess x z = true
  | _, _, [], _, h => by simp [Op.bytesLess] at h
  | [], _, _ :: _, _, _ => rfl
  | _ :: _, [], _ :: _, h, _ => by simp [Op.bytesLess] at h
  | a :: x, b :: y, c :: z, h1, h2 => by
    simp only [Op.bytesLess, Bool.or_eq_true, decide_eq_true_eq, Bool.and_eq_true, beq_iff_eq] at h1 h2 ⊢
    rcases h1 with h1 | ⟨rfl, h1⟩
    · rcases h2 with h2 | ⟨rfl, h2⟩
      · exact .inl (UInt8.lt_trans h1 h2)
      · exact .inl h1
    · rcases h2 with h2 | ⟨rfl, h2⟩
      · exact .inl h2
      · exact .inr ⟨rfl, bl_trans x y z h1 h2⟩
theorem bl_tri : ∀ x y : List UInt8, Op.bytesLess x y = true ∨ x = y ∨ Op.bytesLess y x = true
  | [], [] => .inr (.inl rfl)
  | [], _ :: _ => .inl rfl
  | _ :: _, [] => .inr (.inr rfl)
  | a :: x, b :: y => by
    simp only [Op.bytesLess, Bool.or_eq_true, decide_eq_true_eq, Bool.and_eq_true, beq_iff_eq, List.cons.injEq]
    by_cases h : a < b
    · exact .inl (.inl h)
    · by_cases h' : b < a
      · exact .inr (.inr (.inl h'))
      · have e : a = b := by
          apply UInt8.toNat_inj.1
          rw [UInt8.lt_iff_toNat_lt] at h h'
          omega
        subst e
        rcases bl_tri x y with g | g | g
        · exact .inl (.inr ⟨rfl, g⟩)
        · exact .inr (.inl ⟨rfl, g⟩)
        · exact .inr (.inr (.inr ⟨rfl, g⟩))

def tl (a b : ByteArray) : Bool := Op.bytesLess a.toList b.toList
theorem tl_irrefl (a : ByteArray) : tl a a = false := bl_irrefl _
theorem tl_trans {a b c : ByteArray} (h : tl a b = true) (h' : tl b c = true) : tl a c = true := bl_trans _ _ _ h h'
theorem tl_ne {a b : ByteArray} (h : tl a b = true) : a ≠ b := by rintro rfl; rw [tl_irrefl] at h; cases h
theorem tl_asymm {a b : ByteArray} (h : tl a b = true) : tl b a = false := by
  cases h2 : tl b a with
  | false => rfl
  | true => have := tl_trans h h2; rw [tl_irrefl] at this; cases this
theorem list_text {a b : ByteArray} (h : a.toList = b.toList) : a = b := by
  rw [ByteArray.toList_eq, ByteArray.toList_eq] at h
  exact ByteArray.ext (Array.ext' h)
theorem tl_tri (a b : ByteArray) : tl a b = true ∨ a = b ∨ tl b a = true := by
  rcases bl_tri a.toList b.toList with h | h | h
  · exact .inl h
  · exact .inr (.inl (list_text h))
  · exact .inr (.inr h)
theorem eq_text (a b : ByteArray) : (a.toList == b.toList) = decide (a = b) := by
  by_cases h : a = b
  · subst h; simp
  · have : ¬ a.toList = b.toList := fun e => h (list_text e)
    simp [h, this]

abbrev Pl := ByteArray × Int
def tAt (ps : List Pl) (i : Nat) : ByteArray := (ps[i]?.getD (ByteArray.empty, 0)).1
def mAt (ps : List Pl) (i : Nat) : Int := (ps[i]?.getD (ByteArray.empty, 0)).2
/-- A pile is valid. -/
def pileB (t : ByteArray) (m : Int) : Bool := validB (nums t) 5 && inB m 1 99
theorem pileB_iff (t : ByteArray) (m : Int) : pileB t m = true ↔ validB (nums t) 5 = true ∧ 1 ≤ m ∧ m ≤ 99 := by simp [pileB, inB]
/-- The first k piles are valid, and ascend. -/
def ascTo (ps : List Pl) (k : Nat) : Bool := (List.range k).all fun i => pileB (tAt ps i) (mAt ps i) && (decide (i = 0) || tl (tAt ps (i - 1)) (tAt ps i))
theorem ascTo_succ (ps : List Pl) (k : Nat) : ascTo ps (k + 1) = (ascTo ps k && (pileB (tAt ps k) (mAt ps k) && (decide (k = 0) || tl (tAt ps (k - 1)) (tAt ps k)))) := by simp [ascTo, List.range_succ]
theorem ascTo_no {ps : List Pl} {k n : Nat} (h : ascTo ps (k + 1) = false) (hk : k < n) : ascTo ps n = false := by
  simp only [ascTo, List.all_eq_false, List.mem_range] at h ⊢
  obtain ⟨i, h1, h2⟩ := h
  exact ⟨i, by omega, h2⟩
/-- Piles are valid. -/
def pilesB (ps : List Pl) : Bool := ascTo ps ps.length && decide ((ps.length : Int) ≤ 12)

def Asc (ps : List Pl) : Prop := ps.Pairwise fun p q => tl p.1 q.1 = true
theorem asc_of {ps : List Pl} (h : ∀ i, i + 1 < ps.length → tl (tAt ps i) (tAt ps (i + 1)) = true) : Asc ps := by
  have far : ∀ d i, i + d + 1 < ps.length → tl (tAt ps i) (tAt ps (i + d + 1)) = true := by
    intro d
    induction d with
    | zero => intro i hi; exact h i hi
    | succ d ih => intro i hi; exact tl_trans (ih i (by omega)) (h (i + d + 1) (by omega))
  unfold Asc
  rw [List.pairwise_iff_getElem]
  intro i j hi hj hij
  have := far (j - i - 1) i (by omega)
  rw [show i + (j - i - 1) + 1 = j from by omega] at this
  simpa [tAt, hi, hj] using this
theorem asc_at {ps : List Pl} (h : Asc ps) {i j : Nat} (hij : i < j) (hj : j < ps.length) : tl (tAt ps i) (tAt ps j) = true := by
  have := (List.pairwise_iff_getElem.1 h) i j (by omega) hj hij
  simpa [tAt, hj, show i < ps.length from by omega] using this
theorem pilesB_iff (ps : List Pl) : pilesB ps = true ↔ (∀ p ∈ ps, pileB p.1 p.2 = true) ∧ Asc ps ∧ ps.length ≤ 12 := by
  simp only [pilesB, ascTo, Bool.and_eq_true, List.all_eq_true, List.mem_range, Bool.or_eq_true, decide_eq_true_eq]
  constructor
  · rintro ⟨h, hl⟩
    refine ⟨fun p hp => ?_, asc_of fun i hi => ?_, by omega⟩
    · obtain ⟨i, hi, rfl⟩ := List.mem_iff_getElem.1 hp
      have := (h i hi).1
      simpa [tAt, mAt, hi] using this
    · have := (h (i + 1) hi).2
      simpa using this
  · rintro ⟨h1, h2, h3⟩
    refine ⟨fun i hi => ⟨?_, ?_⟩, by omega⟩
    · have := h1 _ (List.getElem_mem hi)
      simpa [tAt, mAt, hi] using this
    · by_cases e : i = 0
      · exact .inl e
      · exact .inr (asc_at h2 (by omega) hi)

/-- How many ballots a text has. -/
def tot : List Pl → ByteArray → Int
  | [], _ => 0
  | p :: ps, u => (if p.1 = u then p.2 else 0) + tot ps u
theorem tot_app (a b : List Pl) (u : ByteArray) : tot (a ++ b) u = tot a u + tot b u := by
  induction a with
  | nil => simp [tot]
  | cons p a ih => simp only [List.cons_append, tot, ih]; omega
theorem tot_none {ps : List Pl} {u : ByteArray} (h : ∀ p ∈ ps, p.1 ≠ u) : tot ps u = 0 := by
  induction ps with
  | nil => rfl
  | cons p ps ih =>
    rw [tot, if_neg (h p (by simp)), ih (fun q hq => h q (by simp [hq]))]; rfl
theorem asc_cons {p : Pl} {ps : List Pl} (h : Asc (p :: ps)) : Asc ps ∧ ∀ q ∈ ps, tl p.1 q.1 = true := by
  unfold Asc at h
  rw [List.pairwise_cons] at h
  exact ⟨h.2, h.1⟩
theorem tot_head {p : Pl} {ps : List Pl} (h : Asc (p :: ps)) : tot (p :: ps) p.1 = p.2 := by
  rw [tot, if_pos rfl, tot_none (fun q hq => (tl_ne ((asc_cons h).2 q hq)).symm)]; omega
theorem tot_mem {ps : List Pl} (h : Asc ps) : ∀ p ∈ ps, tot ps p.1 = p.2 := by
  induction ps with
  | nil => intro p hp; cases hp
  | cons q ps ih =>
    intro p hp
    obtain ⟨h1, h2⟩ := asc_cons h
    rcases List.mem_cons.1 hp with e | hp
    · subst e; exact tot_head h
    · rw [tot, if_neg (tl_ne (h2 p hp)), ih h1 p hp]; omega
/-- Ascending piles with as many ballots of each text are the same. -/
theorem piles_ext : ∀ {a b : List Pl}, Asc a → Asc b → (∀ p ∈ a, 1 ≤ p.2) → (∀ p ∈ b, 1 ≤ p.2) → (∀ u, tot a u = tot b u) → a = b
  | [], [], _, _, _, _, _ => rfl
  | [], q :: b, _, hb, _, pb, h => by
    have := h q.1
    rw [tot_head hb] at this
    have := pb q (by simp)
    simp [tot] at *
    omega
  | p :: a, [], ha, _, pa, _, h => by
    have := h p.1
    rw [tot_head ha] at this
    have := pa p (by simp)
    simp [tot] at *
    omega
  | p :: a, q :: b, ha, hb, pa, pb, h => by
    have hp := pa p (by simp)
    have hq := pb q (by simp)
    rcases tl_tri p.1 q.1 with g | g | g
    · have h1 := h p.1
      rw [tot_head ha, tot_none (fun r hr => ?_)] at h1
      · omega
      · rcases List.mem_cons.1 hr with e | hr
        · subst e; exact (tl_ne g).symm
        · exact (tl_ne (tl_trans g ((asc_cons hb).2 r hr))).symm
    · have h1 := h p.1
      rw [tot_head ha, g, tot_head hb] at h1
      have e : p = q := Prod.ext g h1
      subst e
      have := piles_ext (asc_cons ha).1 (asc_cons hb).1 (fun r hr => pa r (by simp [hr])) (fun r hr => pb r (by simp [hr])) (fun u => by have := h u; simp only [tot] at this; omega)
      rw [this]
    · have h1 := h q.1
      rw [tot_head hb, tot_none (fun r hr => ?_)] at h1
      · omega
      · rcases List.mem_cons.1 hr with e | hr
        · subst e; exact (tl_ne g).symm
        · exact (tl_ne (tl_trans g ((asc_cons ha).2 r hr))).symm

/-- Ballots are put to their pile, or a new one. -/
def putL : List Pl → ByteArray → Int → List Pl
  | [], t, m => [(t, m)]
  | p :: ps, t, m => if tl p.1 t = true then p :: putL ps t m else if p.1 = t then (t, p.2 + m) :: ps else (t, m) :: p :: ps
theorem tot_put (ps : List Pl) (t : ByteArray) (m : Int) (u : ByteArray) : tot (putL ps t m) u = tot ps u + (if t = u then m else 0) := by
  induction ps with
  | nil => simp [putL, tot]
  | cons p ps ih =>
    unfold putL
    split
    · simp only [tot, ih]; omega
    · split
      · rename_i h1 h2
        simp only [tot, h2]
        split <;> omega
      · simp only [tot]; omega
theorem put_texts {ps : List Pl} {t : ByteArray} {m : Int} : ∀ q ∈ putL ps t m, q.1 = t ∨ ∃ p ∈ ps, p.1 = q.1 := by
  induction ps with
  | nil => intro q hq; simp [putL] at hq; exact .inl (by rw [hq])
  | cons p ps ih =>
    intro q hq
    unfold putL at hq
    split at hq
    · rcases List.mem_cons.1 hq with e | hq
      · exact .inr ⟨p, by simp, by rw [e]⟩
      · rcases ih q hq with e | ⟨r, hr, e⟩
        · exact .inl e
        · exact .inr ⟨r, by simp [hr], e⟩
    · split at hq
      · rcases List.mem_cons.1 hq with e | hq
        · exact .inl (by rw [e])
        · exact .inr ⟨q, by simp [hq], rfl⟩
      · rcases List.mem_cons.1 hq with e | hq
        · exact .inl (by rw [e])
        · exact .inr ⟨q, hq, rfl⟩
theorem asc_put {ps : List Pl} (h : Asc ps) (t : ByteArray) (m : Int) : Asc (putL ps t m) := by
  induction ps with
  | nil => simp [putL, Asc]
  | cons p ps ih =>
    obtain ⟨h1, h2⟩ := asc_cons h
    unfold putL
    split
    · rename_i hl
      refine List.pairwise_cons.2 ⟨fun q hq => ?_, ih h1⟩
      rcases put_texts q hq with e | ⟨r, hr, e⟩
      · rw [e]; exact hl
      · rw [← e]; exact h2 r hr
    · rename_i hl
      split
      · rename_i e
        subst e
        exact List.pairwise_cons.2 ⟨h2, h1⟩
      · rename_i e
        have hg : tl t p.1 = true := by
          rcases tl_tri p.1 t with g | g | g
          · exact absurd g hl
          · exact absurd g e
          · exact g
        refine List.pairwise_cons.2 ⟨fun q hq => ?_, h⟩
        rcases List.mem_cons.1 hq with e2 | hq
        · subst e2; exact hg
        · exact tl_trans hg (h2 q hq)
theorem pos_put {ps : List Pl} {t : ByteArray} {m : Int} (h : ∀ p ∈ ps, 1 ≤ p.2) (hm : 1 ≤ m) : ∀ q ∈ putL ps t m, 1 ≤ q.2 := by
  induction ps with
  | nil => intro q hq; simp [putL] at hq; rw [hq]; exact hm
  | cons p ps ih =>
    intro q hq
    have hp := h p (by simp)
    unfold putL at hq
    split at hq
    · rcases List.mem_cons.1 hq with e | hq
      · rw [e]; exact hp
      · exact ih (fun r hr => h r (by simp [hr])) q hq
    · split at hq
      · rcases List.mem_cons.1 hq with e | hq
        · rw [e]; show 1 ≤ p.2 + m; omega
        · exact h q (by simp [hq])
      · rcases List.mem_cons.1 hq with e | hq
        · rw [e]; exact hm
        · exact h q hq
/-- What was there is there still, and no fewer. -/
theorem put_keeps {ps : List Pl} {t : ByteArray} {m : Int} (hm : 0 ≤ m) : ∀ p ∈ ps, ∃ q ∈ putL ps t m, q.1 = p.1 ∧ p.2 ≤ q.2 := by
  induction ps with
  | nil => intro p hp; cases hp
  | cons r ps ih =>
    intro p hp
    unfold putL
    split
    · rcases List.mem_cons.1 hp with e | hp
      · exact ⟨r, by simp, by rw [e], by rw [e]; exact Int.le_refl _⟩
      · obtain ⟨q, h1, h2⟩ := ih p hp
        exact ⟨q, by simp [h1], h2⟩
    · split
      · rename_i e1
        rcases List.mem_cons.1 hp with e | hp
        · subst e; exact ⟨(t, p.2 + m), by simp, e1.symm, by show p.2 ≤ p.2 + m; omega⟩
        · exact ⟨p, by simp [hp], rfl, Int.le_refl _⟩
      · exact ⟨p, List.mem_cons_of_mem _ hp, rfl, Int.le_refl _⟩
theorem put_longer (ps : List Pl) (t : ByteArray) (m : Int) : ps.length ≤ (putL ps t m).length ∧ (putL ps t m).length ≤ ps.length + 1 := by
  induction ps with
  | nil => simp [putL]
  | cons p ps ih =>
    unfold putL
    split
    · simp; omega
    · split <;> simp

/-- All ballots. -/
def sumL (ps : List Pl) : Int := ps.foldr (fun p s => p.2 + s) 0
theorem sumL_cons (p : Pl) (ps : List Pl) : sumL (p :: ps) = p.2 + sumL ps := rfl
theorem sumL_put (ps : List Pl) (t : ByteArray) (m : Int) : sumL (putL ps t m) = sumL ps + m := by
  induction ps with
  | nil => simp [putL, sumL]
  | cons p ps ih =>
    unfold putL
    split
    · rw [sumL_cons, ih, sumL_cons]; omega
    · split
      · simp only [sumL_cons]; omega
      · simp only [sumL_cons]; omega

/-- Piles are put to others. -/
def mergeL (a : List Pl) : List Pl → List Pl
  | [] => a
  | p :: b => mergeL (putL a p.1 p.2) b
theorem mergeL_app (a b c : List Pl) : mergeL a (b ++ c) = mergeL (mergeL a b) c := by
  induction b generalizing a with
  | nil => rfl
  | cons p b ih => exact ih _
theorem mergeL_snoc (a b : List Pl) (p : Pl) : mergeL a (b ++ [p]) = putL (mergeL a b) p.1 p.2 := by rw [mergeL_app]; rfl
theorem tot_merge (a b : List Pl) (u : ByteArray) : tot (mergeL a b) u = tot a u + tot b u := by
  induction b generalizing a with
  | nil => simp [mergeL, tot]
  | cons p b ih => rw [mergeL, ih, tot_put, tot]; omega
theorem asc_merge {a : List Pl} (h : Asc a) (b : List Pl) : Asc (mergeL a b) := by
  induction b generalizing a with
  | nil => exact h
  | cons p b ih => exact ih (asc_put h _ _)
theorem pos_merge {a b : List Pl} (h : ∀ p ∈ a, 1 ≤ p.2) (hb : ∀ p ∈ b, 1 ≤ p.2) : ∀ q ∈ mergeL a b, 1 ≤ q.2 := by
  induction b generalizing a with
  | nil => exact h
  | cons p b ih => exact ih (pos_put h (hb p (by simp))) (fun q hq => hb q (by simp [hq]))
theorem merge_keeps {a b : List Pl} (hb : ∀ p ∈ b, 1 ≤ p.2) : ∀ p ∈ a, ∃ q ∈ mergeL a b, q.1 = p.1 ∧ p.2 ≤ q.2 := by
  induction b generalizing a with
  | nil => intro p hp; exact ⟨p, hp, rfl, Int.le_refl _⟩
  | cons r b ih =>
    intro p hp
    obtain ⟨q, h1, h2, h3⟩ := put_keeps (t := r.1) (m := r.2) (by have := hb r (by simp); omega) p hp
    obtain ⟨s, g1, g2, g3⟩ := ih (fun q hq => hb q (by simp [hq])) q h1
    exact ⟨s, g1, by rw [g2, h2], by omega⟩
theorem merge_longer (a b : List Pl) : a.length ≤ (mergeL a b).length ∧ (mergeL a b).length ≤ a.length + b.length := by
  induction b generalizing a with
  | nil => simp [mergeL]
  | cons p b ih =>
    have h1 := put_longer a p.1 p.2
    have h2 := ih (putL a p.1 p.2)
    rw [mergeL, List.length_cons]; omega
theorem sumL_merge (a b : List Pl) : sumL (mergeL a b) = sumL a + sumL b := by
  induction b generalizing a with
  | nil => simp [mergeL, sumL]
  | cons p b ih => rw [mergeL, ih, sumL_put, sumL_cons]; omega
theorem pilesB_pos {a : List Pl} (h : pilesB a = true) : Asc a ∧ (∀ p ∈ a, 1 ≤ p.2) ∧ (∀ p ∈ a, p.2 ≤ 99) ∧ (∀ p ∈ a, validB (nums p.1) 5 = true) ∧ a.length ≤ 12 := by
  obtain ⟨h1, h2, h3⟩ := (pilesB_iff a).1 h
  exact ⟨h2, fun p hp => ((pileB_iff _ _).1 (h1 p hp)).2.1, fun p hp => ((pileB_iff _ _).1 (h1 p hp)).2.2, fun p hp => ((pileB_iff _ _).1 (h1 p hp)).1, h3⟩
/-- **It returns the same for both exchanged.** -/
theorem merge_comm {a b : List Pl} (ha : pilesB a = true) (hb : pilesB b = true) : mergeL a b = mergeL b a := by
  obtain ⟨a1, a2, _⟩ := pilesB_pos ha
  obtain ⟨b1, b2, _⟩ := pilesB_pos hb
  exact piles_ext (asc_merge a1 b) (asc_merge b1 a) (pos_merge a2 b2) (pos_merge b2 a2) (fun u => by rw [tot_merge, tot_merge]; omega)
/-- What leads to valid piles is valid. -/
theorem valid_before {a b : List Pl} (h : pilesB (mergeL a b) = true) (ha : Asc a) (pa : ∀ p ∈ a, 1 ≤ p.2) (pb : ∀ p ∈ b, 1 ≤ p.2) : pilesB a = true := by
  obtain ⟨_, _, h3, h4, h5⟩ := pilesB_pos h
  refine (pilesB_iff a).2 ⟨fun p hp => ?_, ha, by have := (merge_longer a b).1; omega⟩
  obtain ⟨q, g1, g2, g3⟩ := merge_keeps pb p hp
  refine (pileB_iff _ _).2 ⟨by rw [← g2]; exact h4 q g1, pa p hp, by have := h3 q g1; omega⟩
/-- Ballots that are added one after the other. -/
theorem put_two {a : List Pl} (h : pilesB a = true) (t : ByteArray) (k n : Int) (hk : 1 ≤ k) (hn : 1 ≤ n) : putL (putL a t k) t n = putL a t (k + n) := by
  obtain ⟨a1, a2, _⟩ := pilesB_pos h
  refine piles_ext (asc_put (asc_put a1 _ _) _ _) (asc_put a1 _ _) (pos_put (pos_put a2 hk) hn) (pos_put a2 (by omega)) (fun u => ?_)
  rw [tot_put, tot_put, tot_put]
  split <;> omega
/-- Parts of valid piles are valid. -/
theorem piles_sub {a b : List Pl} (h : pilesB a = true) (hs : List.Sublist b a) : pilesB b = true := by
  obtain ⟨h1, h2, h3⟩ := (pilesB_iff a).1 h
  exact (pilesB_iff b).2 ⟨fun p hp => h1 p (hs.subset hp), List.Pairwise.sublist hs h2, by have := hs.length_le; omega⟩
/-- A pile twice is invalid. -/
theorem piles_twice {a : List Pl} (k : Nat) (hk : k < a.length) : pilesB (a.take (k + 1) ++ a.drop k) = false := by
  cases h : pilesB (a.take (k + 1) ++ a.drop k) with
  | false => rfl
  | true =>
    obtain ⟨h1, _⟩ := pilesB_pos h
    have hl : (a.take (k + 1) ++ a.drop k).length = a.length + 1 := by simp; omega
    have := asc_at h1 (i := k) (j := k + 1) (by omega) (by omega)
    have e1 : tAt (a.take (k + 1) ++ a.drop k) k = tAt a k := by
      unfold tAt
      rw [List.getElem?_append_left (by simp; omega), List.getElem?_take_of_lt (by omega)]
    have e2 : tAt (a.take (k + 1) ++ a.drop k) (k + 1) = tAt a k := by
      unfold tAt
      have hlt : (a.take (k + 1)).length = k + 1 := by simp; omega
      rw [List.getElem?_append_right (by omega), hlt, Nat.sub_self, List.getElem?_drop]; rfl
    rw [e1, e2, tl_irrefl] at this
    cases this

end Go.Proofs.Yteomnjakcnfchaa
