/-
  Piles, as lists: valid ones, adding, merging, exchanging, totals. Of no memory.
  Piles, as lists: where ballots are put; two candidates exchanged. Of no memory.
  Sums over all ballots of piles, as lists: of parts, of merged piles, of piles with two candidates exchanged. Of no memory.
  The first candidate of a ballot who has not left, as lists. Of no memory.
  First preferences are counted, as lists: of ballots that come one pile after the other, of parts, and when somebody leaves. Of no memory.
-/
import Derived.Test.YtmbhcgdapglbgaaGrp1
import Derived.Laws.Strings
namespace Go.Proofs.Ytmbhcgdapglbgaa

/-- The order of texts, byte by byte. -/
theorem bl_irrefl : ∀ x : List UInt8, Op.bytesLess x x = false
  | [] => rfl
  | a :: x => by simp [Op.bytesLess, bl_irrefl x]
theorem bl_trans : ∀ x y z : List UInt8, Op.bytesLess x y = true → Op.bytesLess y z = true → Op.bytesLess x z = true
  | _, _, [], _, h => by simp [Op.bytesLess] at h
  | [], _, _ :: _, _, _ => rfl
  | _ :: _, [], _ :: _, h, _ => by simp [Op.bytesLess] at h
  | a :: x, b :: y, c :: z, h1, h2 => by
    simp only [Op.bytesLess, Bool.or_eq_true, decide_eq_true_eq, Bool.and_eq_true, beq_iff_eq] at h1 h2 ⊢
    rcases h1 with h1 | ⟨rfl, h1⟩
    · rcases h2 with h2 | ⟨rfl, h2⟩
      · exact .inl (UInt8.lt_trans h1 h2)
      · exact .inl h1
    · rcases h2 with h2 | ⟨rfl, h2⟩
      · exact .inl h2
      · exact .inr ⟨rfl, bl_trans x y z h1 h2⟩
theorem bl_tri : ∀ x y : List UInt8, Op.bytesLess x y = true ∨ x = y ∨ Op.bytesLess y x = true
  | [], [] => .inr (.inl rfl)
  | [], _ :: _ => .inl rfl
  | _ :: _, [] => .inr (.inr rfl)
  | a :: x, b :: y => by
    simp only [Op.bytesLess, Bool.or_eq_true, decide_eq_true_eq, Bool.and_eq_true, beq_iff_eq, List.cons.injEq]
    by_cases h : a < b
    · exact .inl (.inl h)
    · by_cases h' : b < a
      · exact .inr (.inr (.inl h'))
      · have e : a = b := by
          apply UInt8.toNat_inj.1
          rw [UInt8.lt_iff_toNat_lt] at h h'
          omega
        subst e
        rcases bl_tri x y with g | g | g
        · exact .inl (.inr ⟨rfl, g⟩)
        · exact .inr (.inl ⟨rfl, g⟩)
        · exact .inr (.inr (.inr ⟨rfl, g⟩))

def tl (a b : ByteArray) : Bool := Op.bytesLess a.toList b.toList
theorem tl_irrefl (a : ByteArray) : tl a a = false := bl_irrefl _
theorem tl_trans {a b c : ByteArray} (h : tl a b = true) (h' : tl b c = true) : tl a c = true := bl_trans _ _ _ h h'
theorem tl_ne {a b : ByteArray} (h : tl a b = true) : a ≠ b := by rintro rfl; rw [tl_irrefl] at h; cases h
theorem tl_asymm {a b : ByteArray} (h : tl a b = true) : tl b a = false := by
  cases h2 : tl b a with
  | false => rfl
  | true => have := tl_trans h h2; rw [tl_irrefl] at this; cases this
theorem list_text {a b : ByteArray} (h : a.toList = b.toList) : a = b := by
  rw [ByteArray.toList_eq, ByteArray.toList_eq] at h
  exact ByteArray.ext (Array.ext' h)
theorem tl_tri (a b : ByteArray) : tl a b = true ∨ a = b ∨ tl b a = true := by
  rcases bl_tri a.toList b.toList with h | h | h
  · exact .inl h
  · exact .inr (.inl (list_text h))
  · exact .inr (.inr h)
theorem eq_text (a b : ByteArray) : (a.toList == b.toList) = decide (a = b) := by
  by_cases h : a = b
  · subst h; simp
  · have : ¬ a.toList = b.toList := fun e => h (list_text e)
    simp [h, this]

abbrev Pl := ByteArray × Int
def tAt (ps : List Pl) (i : Nat) : ByteArray := (ps[i]?.getD (ByteArray.empty, 0)).1
def mAt (ps : List Pl) (i : Nat) : Int := (ps[i]?.getD (ByteArray.empty, 0)).2
/-- A pile is valid. -/
def pileB (t : ByteArray) (m : Int) : Bool := validB (nums t) 5 && inB m 1 99
theorem pileB_iff (t : ByteArray) (m : Int) : pileB t m = true ↔ validB (nums t) 5 = true ∧ 1 ≤ m ∧ m ≤ 99 := by simp [pileB, inB]
/-- The first k piles are valid, and ascend. -/
def ascTo (ps : List Pl) (k : Nat) : Bool := (List.range k).all fun i => pileB (tAt ps i) (mAt ps i) && (decide (i = 0) || tl (tAt ps (i - 1)) (tAt ps i))
theorem ascTo_succ (ps : List Pl) (k : Nat) : ascTo ps (k + 1) = (ascTo ps k && (pileB (tAt ps k) (mAt ps k) && (decide (k = 0) || tl (tAt ps (k - 1)) (tAt ps k)))) := by simp [ascTo, List.range_succ]
theorem ascTo_no {ps : List Pl} {k n : Nat} (h : ascTo ps (k + 1) = false) (hk : k < n) : ascTo ps n = false := by
  simp only [ascTo, List.all_eq_false, List.mem_range] at h ⊢
  obtain ⟨i, h1, h2⟩ := h
  exact ⟨i, by omega, h2⟩
/-- Piles are valid. -/
def pilesB (ps : List Pl) : Bool := ascTo ps ps.length && decide ((ps.length : Int) ≤ 12)

def Asc (ps : List Pl) : Prop := ps.Pairwise fun p q => tl p.1 q.1 = true
theorem asc_of {ps : List Pl} (h : ∀ i, i + 1 < ps.length → tl (tAt ps i) (tAt ps (i + 1)) = true) : Asc ps := by
  have far : ∀ d i, i + d + 1 < ps.length → tl (tAt ps i) (tAt ps (i + d + 1)) = true := by
    intro d
    induction d with
    | zero => intro i hi; exact h i hi
    | succ d ih => intro i hi; exact tl_trans (ih i (by omega)) (h (i + d + 1) (by omega))
  unfold Asc
  rw [List.pairwise_iff_getElem]
  intro i j hi hj hij
  have := far (j - i - 1) i (by omega)
  rw [show i + (j - i - 1) + 1 = j from by omega] at this
  simpa [tAt, hi, hj] using this
theorem asc_at {ps : List Pl} (h : Asc ps) {i j : Nat} (hij : i < j) (hj : j < ps.length) : tl (tAt ps i) (tAt ps j) = true := by
  have := (List.pairwise_iff_getElem.1 h) i j (by omega) hj hij
  simpa [tAt, hj, show i < ps.length from by omega] using this
theorem pilesB_iff (ps : List Pl) : pilesB ps = true ↔ (∀ p ∈ ps, pileB p.1 p.2 = true) ∧ Asc ps ∧ ps.length ≤ 12 := by
  simp only [pilesB, ascTo, Bool.and_eq_true, List.all_eq_true, List.mem_range, Bool.or_eq_true, decide_eq_true_eq]
  constructor
  · rintro ⟨h, hl⟩
    refine ⟨fun p hp => ?_, asc_of fun i hi => ?_, by omega⟩
    · obtain ⟨i, hi, rfl⟩ := List.mem_iff_getElem.1 hp
      have := (h i hi).1
      simpa [tAt, mAt, hi] using this
    · have := (h (i + 1) hi).2
      simpa using this
  · rintro ⟨h1, h2, h3⟩
    refine ⟨fun i hi => ⟨?_, ?_⟩, by omega⟩
    · have := h1 _ (List.getElem_mem hi)
      simpa [tAt, mAt, hi] using this
    · by_cases e : i = 0
      · exact .inl e
      · exact .inr (asc_at h2 (by omega) hi)

/-- How many ballots a text has. -/
def tot : List Pl → ByteArray → Int
  | [], _ => 0
  | p :: ps, u => (if p.1 = u then p.2 else 0) + tot ps u
theorem tot_app (a b : List Pl) (u : ByteArray) : tot (a ++ b) u = tot a u + tot b u := by
  induction a with
  | nil => simp [tot]
  | cons p a ih => simp only [List.cons_append, tot, ih]; omega
theorem tot_none {ps : List Pl} {u : ByteArray} (h : ∀ p ∈ ps, p.1 ≠ u) : tot ps u = 0 := by
  induction ps with
  | nil => rfl
  | cons p ps ih =>
    rw [tot, if_neg (h p (by simp)), ih (fun q hq => h q (by simp [hq]))]; rfl
theorem asc_cons {p : Pl} {ps : List Pl} (h : Asc (p :: ps)) : Asc ps ∧ ∀ q ∈ ps, tl p.1 q.1 = true := by
  unfold Asc at h
  rw [List.pairwise_cons] at h
  exact ⟨h.2, h.1⟩
theorem tot_head {p : Pl} {ps : List Pl} (h : Asc (p :: ps)) : tot (p :: ps) p.1 = p.2 := by
  rw [tot, if_pos rfl, tot_none (fun q hq => (tl_ne ((asc_cons h).2 q hq)).symm)]; omega
theorem tot_mem {ps : List Pl} (h : Asc ps) : ∀ p ∈ ps, tot ps p.1 = p.2 := by
  induction ps with
  | nil => intro p hp; cases hp
  | cons q ps ih =>
    intro p hp
    obtain ⟨h1, h2⟩ := asc_cons h
    rcases List.mem_cons.1 hp with e | hp
    · subst e; exact tot_head h
    · rw [tot, if_neg (tl_ne (h2 p hp)), ih h1 p hp]; omega
/-- Ascending piles with as many ballots of each text are the same. -/
theorem piles_ext : ∀ {a b : List Pl}, Asc a → Asc b → (∀ p ∈ a, 1 ≤ p.2) → (∀ p ∈ b, 1 ≤ p.2) → (∀ u, tot a u = tot b u) → a = b
  | [], [], _, _, _, _, _ => rfl
  | [], q :: b, _, hb, _, pb, h => by
    have := h q.1
    rw [tot_head hb] at this
    have := pb q (by simp)
    simp [tot] at *
    omega
  | p :: a, [], ha, _, pa, _, h => by
    have := h p.1
    rw [tot_head ha] at this
    have := pa p (by simp)
    simp [tot] at *
    omega
  | p :: a, q :: b, ha, hb, pa, pb, h => by
    have hp := pa p (by simp)
    have hq := pb q (by simp)
    rcases tl_tri p.1 q.1 with g | g | g
    · have h1 := h p.1
      rw [tot_head ha, tot_none (fun r hr => ?_)] at h1
      · omega
      · rcases List.mem_cons.1 hr with e | hr
        · subst e; exact (tl_ne g).symm
        · exact (tl_ne (tl_trans g ((asc_cons hb).2 r hr))).symm
    · have h1 := h p.1
      rw [tot_head ha, g, tot_head hb] at h1
      have e : p = q := Prod.ext g h1
      subst e
      have := piles_ext (asc_cons ha).1 (asc_cons hb).1 (fun r hr => pa r (by simp [hr])) (fun r hr => pb r (by simp [hr])) (fun u => by have := h u; simp only [tot] at this; omega)
      rw [this]
    · have h1 := h q.1
      rw [tot_head hb, tot_none (fun r hr => ?_)] at h1
      · omega
      · rcases List.mem_cons.1 hr with e | hr
        · subst e; exact (tl_ne g).symm
        · exact (tl_ne (tl_trans g ((asc_cons ha).2 r hr))).symm

/-- Ballots are put to their pile, or a new one. -/
def putL : List Pl → ByteArray → Int → List Pl
  | [], t, m => [(t, m)]
  | p :: ps, t, m => if tl p.1 t = true then p :: putL ps t m else if p.1 = t then (t, p.2 + m) :: ps else (t, m) :: p :: ps
theorem tot_put (ps : List Pl) (t : ByteArray) (m : Int) (u : ByteArray) : tot (putL ps t m) u = tot ps u + (if t = u then m else 0) := by
  induction ps with
  | nil => simp [putL, tot]
  | cons p ps ih =>
    unfold putL
    split
    · simp only [tot, ih]; omega
    · split
      · rename_i h1 h2
        simp only [tot, h2]
        split <;> omega
      · simp only [tot]; omega
theorem put_texts {ps : List Pl} {t : ByteArray} {m : Int} : ∀ q ∈ putL ps t m, q.1 = t ∨ ∃ p ∈ ps, p.1 = q.1 := by
  induction ps with
  | nil => intro q hq; simp [putL] at hq; exact .inl (by rw [hq])
  | cons p ps ih =>
    intro q hq
    unfold putL at hq
    split at hq
    · rcases List.mem_cons.1 hq with e | hq
      · exact .inr ⟨p, by simp, by rw [e]⟩
      · rcases ih q hq with e | ⟨r, hr, e⟩
        · exact .inl e
        · exact .inr ⟨r, by simp [hr], e⟩
    · split at hq
      · rcases List.mem_cons.1 hq with e | hq
        · exact .inl (by rw [e])
        · exact .inr ⟨q, by simp [hq], rfl⟩
      · rcases List.mem_cons.1 hq with e | hq
        · exact .inl (by rw [e])
        · exact .inr ⟨q, hq, rfl⟩
theorem asc_put {ps : List Pl} (h : Asc ps) (t : ByteArray) (m : Int) : Asc (putL ps t m) := by
  induction ps with
  | nil => simp [putL, Asc]
  | cons p ps ih =>
    obtain ⟨h1, h2⟩ := asc_cons h
    unfold putL
    split
    · rename_i hl
      refine List.pairwise_cons.2 ⟨fun q hq => ?_, ih h1⟩
      rcases put_texts q hq with e | ⟨r, hr, e⟩
      · rw [e]; exact hl
      · rw [← e]; exact h2 r hr
    · rename_i hl
      split
      · rename_i e
        subst e
        exact List.pairwise_cons.2 ⟨h2, h1⟩
      · rename_i e
        have hg : tl t p.1 = true := by
          rcases tl_tri p.1 t with g | g | g
          · exact absurd g hl
          · exact absurd g e
          · exact g
        refine List.pairwise_cons.2 ⟨fun q hq => ?_, h⟩
        rcases List.mem_cons.1 hq with e2 | hq
        · subst e2; exact hg
        · exact tl_trans hg (h2 q hq)
theorem pos_put {ps : List Pl} {t : ByteArray} {m : Int} (h : ∀ p ∈ ps, 1 ≤ p.2) (hm : 1 ≤ m) : ∀ q ∈ putL ps t m, 1 ≤ q.2 := by
  induction ps with
  | nil => intro q hq; simp [putL] at hq; rw [hq]; exact hm
  | cons p ps ih =>
    intro q hq
    have hp := h p (by simp)
    unfold putL at hq
    split at hq
    · rcases List.mem_cons.1 hq with e | hq
      · rw [e]; exact hp
      · exact ih (fun r hr => h r (by simp [hr])) q hq
    · split at hq
      · rcases List.mem_cons.1 hq with e | hq
        · rw [e]; show 1 ≤ p.2 + m; omega
        · exact h q (by simp [hq])
      · rcases List.mem_cons.1 hq with e | hq
        · rw [e]; exact hm
        · exact h q hq
/-- What was there is there still, and no fewer. -/
theorem put_keeps {ps : List Pl} {t : ByteArray} {m : Int} (hm : 0 ≤ m) : ∀ p ∈ ps, ∃ q ∈ putL ps t m, q.1 = p.1 ∧ p.2 ≤ q.2 := by
  induction ps with
  | nil => intro p hp; cases hp
  | cons r ps ih =>
    intro p hp
    unfold putL
    split
    · rcases List.mem_cons.1 hp with e | hp
      · exact ⟨r, by simp, by rw [e], by rw [e]; exact Int.le_refl _⟩
      · obtain ⟨q, h1, h2⟩ := ih p hp
        exact ⟨q, by simp [h1], h2⟩
    · split
      · rename_i e1
        rcases List.mem_cons.1 hp with e | hp
        · subst e; exact ⟨(t, p.2 + m), by simp, e1.symm, by show p.2 ≤ p.2 + m; omega⟩
        · exact ⟨p, by simp [hp], rfl, Int.le_refl _⟩
      · exact ⟨p, List.mem_cons_of_mem _ hp, rfl, Int.le_refl _⟩
theorem put_longer (ps : List Pl) (t : ByteArray) (m : Int) : ps.length ≤ (putL ps t m).length ∧ (putL ps t m).length ≤ ps.length + 1 := by
  induction ps with
  | nil => simp [putL]
  | cons p ps ih =>
    unfold putL
    split
    · simp; omega
    · split <;> simp

/-- All ballots. -/
def sumL (ps : List Pl) : Int := ps.foldr (fun p s => p.2 + s) 0
theorem sumL_cons (p : Pl) (ps : List Pl) : sumL (p :: ps) = p.2 + sumL ps := rfl
theorem sumL_put (ps : List Pl) (t : ByteArray) (m : Int) : sumL (putL ps t m) = sumL ps + m := by
  induction ps with
  | nil => simp [putL, sumL]
  | cons p ps ih =>
    unfold putL
    split
    · rw [sumL_cons, ih, sumL_cons]; omega
    · split
      · simp only [sumL_cons]; omega
      · simp only [sumL_cons]; omega

/-- Piles are put to others. -/
def mergeL (a : List Pl) : List Pl → List Pl
  | [] => a
  | p :: b => mergeL (putL a p.1 p.2) b
theorem mergeL_app (a b c : List Pl) : mergeL a (b ++ c) = mergeL (mergeL a b) c := by
  induction b generalizing a with
  | nil => rfl
  | cons p b ih => exact ih _
theorem mergeL_snoc (a b : List Pl) (p : Pl) : mergeL a (b ++ [p]) = putL (mergeL a b) p.1 p.2 := by rw [mergeL_app]; rfl
theorem tot_merge (a b : List Pl) (u : ByteArray) : tot (mergeL a b) u = tot a u + tot b u := by
  induction b generalizing a with
  | nil => simp [mergeL, tot]
  | cons p b ih => rw [mergeL, ih, tot_put, tot]; omega
theorem asc_merge {a : List Pl} (h : Asc a) (b : List Pl) : Asc (mergeL a b) := by
  induction b generalizing a with
  | nil => exact h
  | cons p b ih => exact ih (asc_put h _ _)
theorem pos_merge {a b : List Pl} (h : ∀ p ∈ a, 1 ≤ p.2) (hb : ∀ p ∈ b, 1 ≤ p.2) : ∀ q ∈ mergeL a b, 1 ≤ q.2 := by
  induction b generalizing a with
  | nil => exact h
  | cons p b ih => exact ih (pos_put h (hb p (by simp))) (fun q hq => hb q (by simp [hq]))
theorem merge_keeps {a b : List Pl} (hb : ∀ p ∈ b, 1 ≤ p.2) : ∀ p ∈ a, ∃ q ∈ mergeL a b, q.1 = p.1 ∧ p.2 ≤ q.2 := by
  induction b generalizing a with
  | nil => intro p hp; exact ⟨p, hp, rfl, Int.le_refl _⟩
  | cons r b ih =>
    intro p hp
    obtain ⟨q, h1, h2, h3⟩ := put_keeps (t := r.1) (m := r.2) (by have := hb r (by simp); omega) p hp
    obtain ⟨s, g1, g2, g3⟩ := ih (fun q hq => hb q (by simp [hq])) q h1
    exact ⟨s, g1, by rw [g2, h2], by omega⟩
theorem merge_longer (a b : List Pl) : a.length ≤ (mergeL a b).length ∧ (mergeL a b).length ≤ a.length + b.length := by
  induction b generalizing a with
  | nil => simp [mergeL]
  | cons p b ih =>
    have h1 := put_longer a p.1 p.2
    have h2 := ih (putL a p.1 p.2)
    rw [mergeL, List.length_cons]; omega
theorem sumL_merge (a b : List Pl) : sumL (mergeL a b) = sumL a + sumL b := by
  induction b generalizing a with
  | nil => simp [mergeL, sumL]
  | cons p b ih => rw [mergeL, ih, sumL_put, sumL_cons]; omega
theorem pilesB_pos {a : List Pl} (h : pilesB a = true) : Asc a ∧ (∀ p ∈ a, 1 ≤ p.2) ∧ (∀ p ∈ a, p.2 ≤ 99) ∧ (∀ p ∈ a, validB (nums p.1) 5 = true) ∧ a.length ≤ 12 := by
  obtain ⟨h1, h2, h3⟩ := (pilesB_iff a).1 h
  exact ⟨h2, fun p hp => ((pileB_iff _ _).1 (h1 p hp)).2.1, fun p hp => ((pileB_iff _ _).1 (h1 p hp)).2.2, fun p hp => ((pileB_iff _ _).1 (h1 p hp)).1, h3⟩
/-- **It returns the same for both exchanged.** -/
theorem merge_comm {a b : List Pl} (ha : pilesB a = true) (hb : pilesB b = true) : mergeL a b = mergeL b a := by
  obtain ⟨a1, a2, _⟩ := pilesB_pos ha
  obtain ⟨b1, b2, _⟩ := pilesB_pos hb
  exact piles_ext (asc_merge a1 b) (asc_merge b1 a) (pos_merge a2 b2) (pos_merge b2 a2) (fun u => by rw [tot_merge, tot_merge]; omega)
/-- What leads to valid piles is valid. -/
theorem valid_before {a b : List Pl} (h : pilesB (mergeL a b) = true) (ha : Asc a) (pa : ∀ p ∈ a, 1 ≤ p.2) (pb : ∀ p ∈ b, 1 ≤ p.2) : pilesB a = true := by
  obtain ⟨_, _, h3, h4, h5⟩ := pilesB_pos h
  refine (pilesB_iff a).2 ⟨fun p hp => ?_, ha, by have := (merge_longer a b).1; omega⟩
  obtain ⟨q, g1, g2, g3⟩ := merge_keeps pb p hp
  refine (pileB_iff _ _).2 ⟨by rw [← g2]; exact h4 q g1, pa p hp, by have := h3 q g1; omega⟩
/-- Ballots that are added one after the other. -/
theorem put_two {a : List Pl} (h : pilesB a = true) (t : ByteArray) (k n : Int) (hk : 1 ≤ k) (hn : 1 ≤ n) : putL (putL a t k) t n = putL a t (k + n) := by
  obtain ⟨a1, a2, _⟩ := pilesB_pos h
  refine piles_ext (asc_put (asc_put a1 _ _) _ _) (asc_put a1 _ _) (pos_put (pos_put a2 hk) hn) (pos_put a2 (by omega)) (fun u => ?_)
  rw [tot_put, tot_put, tot_put]
  split <;> omega
/-- Parts of valid piles are valid. -/
theorem piles_sub {a b : List Pl} (h : pilesB a = true) (hs : List.Sublist b a) : pilesB b = true := by
  obtain ⟨h1, h2, h3⟩ := (pilesB_iff a).1 h
  exact (pilesB_iff b).2 ⟨fun p hp => h1 p (hs.subset hp), List.Pairwise.sublist hs h2, by have := hs.length_le; omega⟩
/-- A pile twice is invalid. -/
theorem piles_twice {a : List Pl} (k : Nat) (hk : k < a.length) : pilesB (a.take (k + 1) ++ a.drop k) = false := by
  cases h : pilesB (a.take (k + 1) ++ a.drop k) with
  | false => rfl
  | true =>
    obtain ⟨h1, _⟩ := pilesB_pos h
    have hl : (a.take (k + 1) ++ a.drop k).length = a.length + 1 := by simp; omega
    have := asc_at h1 (i := k) (j := k + 1) (by omega) (by omega)
    have e1 : tAt (a.take (k + 1) ++ a.drop k) k = tAt a k := by
      unfold tAt
      rw [List.getElem?_append_left (by simp; omega), List.getElem?_take_of_lt (by omega)]
    have e2 : tAt (a.take (k + 1) ++ a.drop k) (k + 1) = tAt a k := by
      unfold tAt
      have hlt : (a.take (k + 1)).length = k + 1 := by simp; omega
      rw [List.getElem?_append_right (by omega), hlt, Nat.sub_self, List.getElem?_drop]; rfl
    rw [e1, e2, tl_irrefl] at this
    cases this

end Go.Proofs.Ytmbhcgdapglbgaa

namespace Go.Proofs.Ytmbhcgdapglbgaa

theorem tAt_cons (p : Pl) (ps : List Pl) (i : Nat) : tAt (p :: ps) (i + 1) = tAt ps i := by simp [tAt]
theorem mAt_cons (p : Pl) (ps : List Pl) (i : Nat) : mAt (p :: ps) (i + 1) = mAt ps i := by simp [mAt]
/-- Ballots are put to the pile with their text. -/
theorem put_same {t : ByteArray} {m : Int} : ∀ {ps : List Pl} {k : Nat}, (∀ j, j < k → tl (tAt ps j) t = true) → k < ps.length → tAt ps k = t → putL ps t m = ps.set k (t, mAt ps k + m)
  | [], k, _, h, _ => by simp at h
  | p :: ps, 0, _, _, he => by
    have e : p.1 = t := by simpa [tAt] using he
    have hn : ¬ tl p.1 t = true := by rw [e, tl_irrefl]; simp
    rw [putL, if_neg hn, if_pos e]
    simp [mAt]
  | p :: ps, k + 1, h, hk, he => by
    have h0 : tl p.1 t = true := by simpa [tAt] using h 0 (by omega)
    rw [tAt_cons] at he
    have ih := put_same (m := m) (ps := ps) (k := k) (fun j hj => by have := h (j + 1) (by omega); rwa [tAt_cons] at this) (by simpa using hk) he
    rw [putL, if_pos h0, ih, mAt_cons]
    rfl
/-- Ballots are put in a new pile. -/
theorem put_new {t : ByteArray} {m : Int} : ∀ {ps : List Pl} {k : Nat}, (∀ j, j < k → tl (tAt ps j) t = true) → k ≤ ps.length → (k < ps.length → tl (tAt ps k) t = false ∧ tAt ps k ≠ t) → putL ps t m = ps.take k ++ (t, m) :: ps.drop k
  | [], k, _, hk, _ => by
    obtain rfl : k = 0 := by simpa using hk
    rfl
  | p :: ps, 0, _, _, h => by
    obtain ⟨h1, h2⟩ := h (by simp)
    have e1 : ¬ tl p.1 t = true := by simpa [tAt] using h1
    have e2 : ¬ p.1 = t := by simpa [tAt] using h2
    rw [putL, if_neg e1, if_neg e2]; rfl
  | p :: ps, k + 1, h, hk, hs => by
    have h0 : tl p.1 t = true := by simpa [tAt] using h 0 (by omega)
    have ih := put_new (m := m) (ps := ps) (k := k) (fun j hj => by have := h (j + 1) (by omega); rwa [tAt_cons] at this) (by simpa using hk)
      (fun hl => by have := hs (by simpa using hl); rwa [tAt_cons] at this)
    rw [putL, if_pos h0, ih]; rfl

/-- One of two candidates in place of the other. -/
def swapC (x y z : Int) : Int := if z = x then y else if z = y then x else z
theorem swapC_twice (x y z : Int) : swapC x y (swapC x y z) = z := by
  unfold swapC
  by_cases h1 : z = x
  · subst h1
    rw [if_pos rfl]
    by_cases h2 : y = z
    · rw [if_pos h2]; exact h2
    · rw [if_neg h2, if_pos rfl]
  · rw [if_neg h1]
    by_cases h2 : z = y
    · subst h2; rw [if_pos rfl, if_pos rfl]
    · rw [if_neg h2, if_neg h1, if_neg h2]
theorem swapC_same (x z : Int) : swapC x x z = z := by
  unfold swapC
  by_cases h : z = x
  · rw [if_pos h]; exact h.symm
  · rw [if_neg h, if_neg h]
def turnB (x y : Int) (zs : List Int) : List Int := zs.map (swapC x y)
theorem turnB_twice (x y : Int) (zs : List Int) : turnB x y (turnB x y zs) = zs := by
  unfold turnB
  rw [List.map_map]
  conv => rhs; rw [← List.map_id zs]
  apply List.map_congr_left
  intro z _
  exact swapC_twice x y z
theorem turnB_same (x : Int) (zs : List Int) : turnB x x zs = zs := by
  unfold turnB
  conv => rhs; rw [← List.map_id zs]
  apply List.map_congr_left
  intro z _
  exact swapC_same x z
theorem turnB_valid {x y : Int} (hx : 0 ≤ x ∧ x ≤ 4) (hy : 0 ≤ y ∧ y ≤ 4) {zs : List Int} (h : validB zs 5 = true) : validB (turnB x y zs) 5 = true := by
  have hm := vB_mem h
  have hd := vB_nodup h
  refine vB_of (by omega) (by omega) ?_ (fun z hz => ?_)
  · unfold turnB List.Nodup
    rw [List.pairwise_map]
    refine List.Pairwise.imp (fun {a b} hab e => hab ?_) hd
    rw [← swapC_twice x y a, e, swapC_twice]
  · obtain ⟨q, hq, rfl⟩ := List.mem_map.1 hz
    have := hm.2.2 q hq
    unfold swapC
    split
    · omega
    · split <;> omega
/-- A text with two candidates exchanged. -/
def turnT (x y : Int) (s : ByteArray) : ByteArray := txtB (turnB x y (parseL s))
theorem turnT_valid {x y : Int} (hx : 0 ≤ x ∧ x ≤ 4) (hy : 0 ≤ y ∧ y ≤ 4) {s : ByteArray} (h : validB (nums s) 5 = true) : validB (nums (turnT x y s)) 5 = true := by
  unfold turnT
  rw [parseL_ok h]
  exact txtB_ok (turnB_valid hx hy h)
theorem turnT_twice {x y : Int} (hx : 0 ≤ x ∧ x ≤ 4) (hy : 0 ≤ y ∧ y ≤ 4) {s : ByteArray} (h : validB (nums s) 5 = true) : turnT x y (turnT x y s) = s := by
  have h1 := turnB_valid hx hy h
  unfold turnT
  rw [parseL_ok h, txtB_parse h1, turnB_twice, txtB_nums' h]

/-- The piles with two candidates exchanged on all ballots. -/
def turnPs (x y : Int) (ps : List Pl) : List Pl := mergeL [] (ps.map fun p => (turnT x y p.1, p.2))
theorem asc_nil : Asc [] := List.Pairwise.nil
theorem turnPs_asc (x y : Int) (ps : List Pl) : Asc (turnPs x y ps) := asc_merge asc_nil _
theorem turnPs_pos {x y : Int} {ps : List Pl} (h : ∀ p ∈ ps, 1 ≤ p.2) : ∀ q ∈ turnPs x y ps, 1 ≤ q.2 := by
  refine pos_merge (fun p hp => by cases hp) (fun p hp => ?_)
  obtain ⟨q, hq, rfl⟩ := List.mem_map.1 hp
  exact h q hq
theorem tot_turned {x y : Int} (hx : 0 ≤ x ∧ x ≤ 4) (hy : 0 ≤ y ∧ y ≤ 4) {ps : List Pl} (hv : ∀ p ∈ ps, validB (nums p.1) 5 = true) {u : ByteArray} (hu : validB (nums u) 5 = true) : tot (turnPs x y ps) u = tot ps (turnT x y u) := by
  unfold turnPs
  rw [tot_merge]
  simp only [tot, Int.zero_add]
  induction ps with
  | nil => rfl
  | cons p ps ih =>
    rw [List.map_cons, tot, tot, ih (fun q hq => hv q (by simp [hq]))]
    have hp := hv p (by simp)
    by_cases e : turnT x y p.1 = u
    · have e2 : p.1 = turnT x y u := by rw [← e, turnT_twice hx hy hp]
      rw [if_pos e, if_pos e2]
    · have e2 : ¬ p.1 = turnT x y u := fun h => e (by rw [h, turnT_twice hx hy hu])
      rw [if_neg e, if_neg e2]
theorem merge_texts {a b : List Pl} : ∀ q ∈ mergeL a b, (∃ p ∈ a, p.1 = q.1) ∨ ∃ p ∈ b, p.1 = q.1 := by
  induction b generalizing a with
  | nil => intro q hq; exact .inl ⟨q, hq, rfl⟩
  | cons r b ih =>
    intro q hq
    rcases ih q hq with ⟨p, hp, e⟩ | ⟨p, hp, e⟩
    · rcases put_texts p hp with e2 | ⟨s, hs, e2⟩
      · exact .inr ⟨r, by simp, by rw [← e, e2]⟩
      · exact .inl ⟨s, hs, by rw [e2, e]⟩
    · exact .inr ⟨p, by simp [hp], e⟩
theorem turnPs_texts {x y : Int} (hx : 0 ≤ x ∧ x ≤ 4) (hy : 0 ≤ y ∧ y ≤ 4) {ps : List Pl} (hv : ∀ p ∈ ps, validB (nums p.1) 5 = true) : ∀ q ∈ turnPs x y ps, validB (nums q.1) 5 = true := by
  intro q hq
  rcases merge_texts q hq with ⟨p, hp, _⟩ | ⟨p, hp, e⟩
  · cases hp
  · obtain ⟨r, hr, rfl⟩ := List.mem_map.1 hp
    rw [← e]
    exact turnT_valid hx hy (hv r hr)
theorem tot_most {ps : List Pl} (h : Asc ps) (h99 : ∀ p ∈ ps, p.2 ≤ 99) (u : ByteArray) : tot ps u ≤ 99 := by
  by_cases hu : ∃ p ∈ ps, p.1 = u
  · obtain ⟨p, hp, rfl⟩ := hu
    rw [tot_mem h p hp]; exact h99 p hp
  · rw [tot_none (fun p hp e => hu ⟨p, hp, e⟩)]; omega
theorem turnPs_short (x y : Int) (ps : List Pl) : (turnPs x y ps).length ≤ ps.length := by
  have := (merge_longer [] (ps.map fun p => (turnT x y p.1, p.2))).2
  simpa [turnPs] using this
/-- **Exchanged piles are valid.** -/
theorem turn_valid {x y : Int} (hx : 0 ≤ x ∧ x ≤ 4) (hy : 0 ≤ y ∧ y ≤ 4) {ps : List Pl} (h : pilesB ps = true) : pilesB (turnPs x y ps) = true := by
  obtain ⟨h1, h2, h3, h4, h5⟩ := pilesB_pos h
  refine (pilesB_iff _).2 ⟨fun q hq => ?_, turnPs_asc x y ps, by have := turnPs_short x y ps; omega⟩
  have hv := turnPs_texts hx hy h4 q hq
  refine (pileB_iff _ _).2 ⟨hv, turnPs_pos h2 q hq, ?_⟩
  rw [← tot_mem (turnPs_asc x y ps) q hq, tot_turned hx hy h4 hv]
  exact tot_most h1 h3 _
/-- **Exchanging twice changes nothing.** -/
theorem turn_twice {x y : Int} (hx : 0 ≤ x ∧ x ≤ 4) (hy : 0 ≤ y ∧ y ≤ 4) {ps : List Pl} (h : pilesB ps = true) : turnPs x y (turnPs x y ps) = ps := by
  obtain ⟨h1, h2, h3, h4, h5⟩ := pilesB_pos h
  have hv := turnPs_texts hx hy h4
  refine piles_ext (turnPs_asc _ _ _) h1 (turnPs_pos (turnPs_pos h2)) h2 (fun u => ?_)
  cases hu : validB (nums u) 5
  · rw [tot_none (fun q hq e => ?_), tot_none (fun p hp e => ?_)]
    · have := h4 p hp; rw [e, hu] at this; cases this
    · have := turnPs_texts hx hy hv q hq; rw [e, hu] at this; cases this
  · rw [tot_turned hx hy hv hu, tot_turned hx hy h4 (turnT_valid hx hy hu), turnT_twice hx hy hu]
theorem turn_sum (x y : Int) (ps : List Pl) : sumL (turnPs x y ps) = sumL ps := by
  unfold turnPs
  rw [sumL_merge]
  have : sumL (ps.map fun p => (turnT x y p.1, p.2)) = sumL ps := by
    induction ps with
    | nil => rfl
    | cons p ps ih => rw [List.map_cons, sumL_cons, sumL_cons, ih]
  rw [this]; simp [sumL]
theorem turn_length {x y : Int} (hx : 0 ≤ x ∧ x ≤ 4) (hy : 0 ≤ y ∧ y ≤ 4) {ps : List Pl} (h : pilesB ps = true) : (turnPs x y ps).length = ps.length := by
  have h1 := turnPs_short x y ps
  have h2 := turnPs_short x y (turnPs x y ps)
  rw [turn_twice hx hy h] at h2
  omega

/-- What PilesAdd returns. -/
def addB (ps : List Pl) (t : ByteArray) (m : Int) : Bool := pilesB ps && (pileB t m && pilesB (putL ps t m))
def addL (ps : List Pl) (t : ByteArray) (m : Int) : List Pl := if addB ps t m = true then putL ps t m else []
/-- What PilesMerge returns. -/
def joinB (a b : List Pl) : Bool := pilesB a && (pilesB b && pilesB (mergeL a b))
def joinL (a b : List Pl) : List Pl := if joinB a b = true then mergeL a b else []
/-- What PilesTotal returns. -/
def totalL (ps : List Pl) : Int := if pilesB ps = true then sumL ps else -1
/-- What PilesTurn returns. -/
def canB (ps : List Pl) (x y : Int) : Bool := pilesB ps && (inB x 0 4 && inB y 0 4)
def canL (ps : List Pl) (x y : Int) : List Pl := if canB ps x y = true then turnPs x y ps else []
theorem addB_iff (ps : List Pl) (t : ByteArray) (m : Int) : addB ps t m = true ↔ pilesB ps = true ∧ pileB t m = true ∧ pilesB (putL ps t m) = true := by simp [addB]
theorem joinB_iff (a b : List Pl) : joinB a b = true ↔ pilesB a = true ∧ pilesB b = true ∧ pilesB (mergeL a b) = true := by simp [joinB]
theorem canB_iff (ps : List Pl) (x y : Int) : canB ps x y = true ↔ pilesB ps = true ∧ (0 ≤ x ∧ x ≤ 4) ∧ (0 ≤ y ∧ y ≤ 4) := by simp [canB, inB]
/-- P15. -/
theorem law_add {ps : List Pl} {t : ByteArray} {m : Int} (h : addB ps t m = true) : pilesB (addL ps t m) = true ∧ totalL (addL ps t m) = totalL ps + m := by
  obtain ⟨h1, h2, h3⟩ := (addB_iff _ _ _).1 h
  rw [addL, if_pos h]
  exact ⟨h3, by rw [totalL, if_pos h3, totalL, if_pos h1, sumL_put]⟩
/-- P16. -/
theorem law_two {ps : List Pl} {t : ByteArray} {k n : Int} (h : addB ps t (k + n) = true) (hk : 1 ≤ k) (hn : 1 ≤ n) : addB ps t k = true ∧ addB (addL ps t k) t n = true ∧ addL (addL ps t k) t n = addL ps t (k + n) := by
  obtain ⟨h1, h2, h3⟩ := (addB_iff _ _ _).1 h
  obtain ⟨v1, v2, v3⟩ := (pileB_iff _ _).1 h2
  obtain ⟨a1, a2, _⟩ := pilesB_pos h1
  have e := put_two h1 t k n hk hn
  have h4 : pilesB (putL ps t k) = true := valid_before (b := [(t, n)]) (by show pilesB (putL (putL ps t k) t n) = true; rw [e]; exact h3) (asc_put a1 _ _) (pos_put a2 hk) (fun p hp => by rw [List.mem_singleton.1 hp]; exact hn)
  have b1 : addB ps t k = true := (addB_iff _ _ _).2 ⟨h1, (pileB_iff _ _).2 ⟨v1, hk, by omega⟩, h4⟩
  have e1 : addL ps t k = putL ps t k := by rw [addL, if_pos b1]
  have b2 : addB (putL ps t k) t n = true := (addB_iff _ _ _).2 ⟨h4, (pileB_iff _ _).2 ⟨v1, hn, by omega⟩, by rw [e]; exact h3⟩
  exact ⟨b1, by rw [e1]; exact b2, by rw [e1, addL, if_pos b2, e, addL, if_pos h]⟩
/-- P17. -/
theorem law_join {a b : List Pl} (h : joinB a b = true) : joinB b a = true ∧ joinL b a = joinL a b ∧ totalL (joinL a b) = totalL a + totalL b ∧ pilesB (joinL a b) = true := by
  obtain ⟨h1, h2, h3⟩ := (joinB_iff _ _).1 h
  have e := merge_comm h1 h2
  have hb : joinB b a = true := (joinB_iff _ _).2 ⟨h2, h1, by rw [← e]; exact h3⟩
  have e1 : joinL a b = mergeL a b := by rw [joinL, if_pos h]
  exact ⟨hb, by rw [e1, joinL, if_pos hb, e], by rw [e1, totalL, if_pos h3, totalL, if_pos h1, totalL, if_pos h2, sumL_merge], by rw [e1]; exact h3⟩
/-- P18. -/
theorem law_parts {a b : List Pl} (h : joinB a b = true) (k : Nat) : joinB a (b.take k) = true ∧ joinB (joinL a (b.take k)) (b.drop k) = true ∧ joinL (joinL a (b.take k)) (b.drop k) = joinL a b := by
  obtain ⟨h1, h2, h3⟩ := (joinB_iff _ _).1 h
  obtain ⟨a1, a2, _⟩ := pilesB_pos h1
  obtain ⟨_, p2, _⟩ := pilesB_pos h2
  have e : mergeL (mergeL a (b.take k)) (b.drop k) = mergeL a b := by rw [← mergeL_app, List.take_append_drop]
  have ht := piles_sub h2 (List.take_sublist k b)
  have hd := piles_sub h2 (List.drop_sublist k b)
  have h4 : pilesB (mergeL a (b.take k)) = true := valid_before (b := b.drop k) (by rw [e]; exact h3) (asc_merge a1 _) (pos_merge a2 (fun p hp => p2 p (List.mem_of_mem_take hp))) (fun p hp => p2 p (List.mem_of_mem_drop hp))
  have b1 : joinB a (b.take k) = true := (joinB_iff _ _).2 ⟨h1, ht, h4⟩
  have e1 : joinL a (b.take k) = mergeL a (b.take k) := by rw [joinL, if_pos b1]
  have b2 : joinB (mergeL a (b.take k)) (b.drop k) = true := (joinB_iff _ _).2 ⟨h4, hd, by rw [e]; exact h3⟩
  exact ⟨b1, by rw [e1]; exact b2, by rw [e1, joinL, if_pos b2, e, joinL, if_pos h]⟩
/-- P19: one pile more. -/
theorem law_each {a b : List Pl} (h : joinB a b = true) (k : Nat) (hk : k < b.length) : addB (mergeL a (b.take k)) (tAt b k) (mAt b k) = true ∧ addL (mergeL a (b.take k)) (tAt b k) (mAt b k) = mergeL a (b.take (k + 1)) := by
  obtain ⟨h1, h2, h3⟩ := (joinB_iff _ _).1 h
  obtain ⟨a1, a2, _⟩ := pilesB_pos h1
  obtain ⟨_, p2, _⟩ := pilesB_pos h2
  have valid : ∀ j, pilesB (mergeL a (b.take j)) = true := fun j => by
    have e : mergeL (mergeL a (b.take j)) (b.drop j) = mergeL a b := by rw [← mergeL_app, List.take_append_drop]
    exact valid_before (b := b.drop j) (by rw [e]; exact h3) (asc_merge a1 _) (pos_merge a2 (fun p hp => p2 p (List.mem_of_mem_take hp))) (fun p hp => p2 p (List.mem_of_mem_drop hp))
  have e1 : mergeL a (b.take (k + 1)) = putL (mergeL a (b.take k)) (tAt b k) (mAt b k) := by
    rw [List.take_succ_eq_append_getElem hk, mergeL_snoc]
    simp [tAt, mAt, hk]
  have hp : pileB (tAt b k) (mAt b k) = true := by
    have := ((pilesB_iff b).1 h2).1 _ (List.getElem_mem hk)
    simpa [tAt, mAt, hk] using this
  have b1 : addB (mergeL a (b.take k)) (tAt b k) (mAt b k) = true := (addB_iff _ _ _).2 ⟨valid k, hp, by rw [← e1]; exact valid (k + 1)⟩
  exact ⟨b1, by rw [addL, if_pos b1, e1]⟩
/-- P20. -/
theorem law_turn {ps : List Pl} {x y : Int} (h : canB ps x y = true) : canB (canL ps x y) x y = true ∧ canL (canL ps x y) x y = ps ∧ totalL (canL ps x y) = totalL ps ∧ (canL ps x y).length = ps.length := by
  obtain ⟨h1, hx, hy⟩ := (canB_iff _ _ _).1 h
  have hv := turn_valid hx hy h1
  have e1 : canL ps x y = turnPs x y ps := by rw [canL, if_pos h]
  have b2 : canB (turnPs x y ps) x y = true := (canB_iff _ _ _).2 ⟨hv, hx, hy⟩
  rw [e1]
  exact ⟨b2, by rw [canL, if_pos b2, turn_twice hx hy h1], by rw [totalL, if_pos hv, totalL, if_pos h1, turn_sum], turn_length hx hy h1⟩

end Go.Proofs.Ytmbhcgdapglbgaa

namespace Go.Proofs.Ytmbhcgdapglbgaa

/-- Each ballot counts for what f says of its text. -/
def wsum (f : ByteArray → Int) (ps : List Pl) : Int := ps.foldr (fun p s => f p.1 * p.2 + s) 0
theorem wsum_nil (f : ByteArray → Int) : wsum f [] = 0 := rfl
theorem wsum_cons (f : ByteArray → Int) (p : Pl) (ps : List Pl) : wsum f (p :: ps) = f p.1 * p.2 + wsum f ps := rfl
theorem wsum_app (f : ByteArray → Int) (a b : List Pl) : wsum f (a ++ b) = wsum f a + wsum f b := by
  induction a with
  | nil => rw [List.nil_append, wsum_nil, Int.zero_add]
  | cons p a ih => rw [List.cons_append, wsum_cons, wsum_cons, ih, Int.add_assoc]
theorem wsum_snoc (f : ByteArray → Int) (a : List Pl) (p : Pl) : wsum f (a ++ [p]) = wsum f a + f p.1 * p.2 := by
  rw [wsum_app, wsum_cons, wsum_nil, Int.add_zero]
theorem wsum_put (f : ByteArray → Int) (ps : List Pl) (t : ByteArray) (m : Int) : wsum f (putL ps t m) = wsum f ps + f t * m := by
  induction ps with
  | nil => rw [putL, wsum_cons, wsum_nil]; show f t * m + 0 = 0 + f t * m; omega
  | cons p ps ih =>
    unfold putL
    split
    · rw [wsum_cons, ih, wsum_cons]; omega
    · split
      · rename_i h1 h2
        rw [wsum_cons, wsum_cons, h2]
        show f t * (p.2 + m) + wsum f ps = f t * p.2 + wsum f ps + f t * m
        rw [Int.mul_add]; omega
      · rw [wsum_cons, wsum_cons]
        show f t * m + (f p.1 * p.2 + wsum f ps) = f p.1 * p.2 + wsum f ps + f t * m
        omega
theorem wsum_merge (f : ByteArray → Int) (a b : List Pl) : wsum f (mergeL a b) = wsum f a + wsum f b := by
  induction b generalizing a with
  | nil => rw [mergeL, wsum_nil, Int.add_zero]
  | cons p b ih => rw [mergeL, ih, wsum_put, wsum_cons]; omega
theorem wsum_map (f : ByteArray → Int) (g : ByteArray → ByteArray) (ps : List Pl) : wsum f (ps.map fun p => (g p.1, p.2)) = wsum (fun t => f (g t)) ps := by
  induction ps with
  | nil => rfl
  | cons p ps ih => rw [List.map_cons, wsum_cons, wsum_cons, ih]
theorem wsum_turn (f : ByteArray → Int) (x y : Int) (ps : List Pl) : wsum f (turnPs x y ps) = wsum (fun t => f (turnT x y t)) ps := by
  unfold turnPs
  rw [wsum_merge, wsum_nil, wsum_map, Int.zero_add]
theorem wsum_congr {f g : ByteArray → Int} {ps : List Pl} (h : ∀ p ∈ ps, f p.1 = g p.1) : wsum f ps = wsum g ps := by
  induction ps with
  | nil => rfl
  | cons p ps ih => rw [wsum_cons, wsum_cons, h p (by simp), ih (fun q hq => h q (by simp [hq]))]
theorem wsum_le {f g : ByteArray → Int} {ps : List Pl} (h : ∀ p ∈ ps, f p.1 ≤ g p.1) (hp : ∀ p ∈ ps, 1 ≤ p.2) : wsum f ps ≤ wsum g ps := by
  induction ps with
  | nil => exact Int.le_refl _
  | cons p ps ih =>
    rw [wsum_cons, wsum_cons]
    have h1 := Int.mul_le_mul_of_nonneg_right (h p (by simp)) (show 0 ≤ p.2 by have := hp p (by simp); omega)
    have h2 := ih (fun q hq => h q (by simp [hq])) (fun q hq => hp q (by simp [hq]))
    omega
theorem wsum_zero (ps : List Pl) : wsum (fun _ => 0) ps = 0 := by
  induction ps with
  | nil => rfl
  | cons p ps ih => rw [wsum_cons, ih, Int.zero_mul, Int.zero_add]
theorem wsum_one (ps : List Pl) : wsum (fun _ => 1) ps = sumL ps := by
  induction ps with
  | nil => rfl
  | cons p ps ih => rw [wsum_cons, ih, Int.one_mul, sumL_cons]
theorem wsum_nonneg {f : ByteArray → Int} {ps : List Pl} (h : ∀ p ∈ ps, 0 ≤ f p.1) (hp : ∀ p ∈ ps, 1 ≤ p.2) : 0 ≤ wsum f ps := by
  have := wsum_le (f := fun _ => 0) h hp
  rwa [wsum_zero] at this
theorem wsum_most {f : ByteArray → Int} {ps : List Pl} (h : ∀ p ∈ ps, f p.1 ≤ 1) (hp : ∀ p ∈ ps, 1 ≤ p.2) : wsum f ps ≤ sumL ps := by
  have := wsum_le (g := fun _ => 1) h hp
  rwa [wsum_one] at this
theorem wsum_add (f g : ByteArray → Int) (ps : List Pl) : wsum (fun t => f t + g t) ps = wsum f ps + wsum g ps := by
  induction ps with
  | nil => rfl
  | cons p ps ih => rw [wsum_cons, wsum_cons, wsum_cons, ih, Int.add_mul]; omega

/-- The sum of some numbers. -/
def totI (l : List Int) : Int := l.foldr (· + ·) 0
theorem totI_nil : totI [] = 0 := rfl
theorem totI_cons (z : Int) (l : List Int) : totI (z :: l) = z + totI l := rfl
theorem totI_app (a b : List Int) : totI (a ++ b) = totI a + totI b := by
  induction a with
  | nil => rw [List.nil_append, totI_nil, Int.zero_add]
  | cons z a ih => rw [List.cons_append, totI_cons, totI_cons, ih, Int.add_assoc]
theorem totI_snoc (a : List Int) (z : Int) : totI (a ++ [z]) = totI a + z := by rw [totI_app, totI_cons, totI_nil, Int.add_zero]
/-- Sums over candidates and over ballots are exchanged. -/
theorem totI_wsum (F : Nat → ByteArray → Int) (n : Nat) (ps : List Pl) : totI ((List.range n).map fun k => wsum (F k) ps) = wsum (fun t => totI ((List.range n).map fun k => F k t)) ps := by
  induction n with
  | zero => simp only [List.range_zero, List.map_nil, totI_nil]; exact (wsum_zero ps).symm
  | succ n ih =>
    simp only [List.range_succ, List.map_append, List.map_cons, List.map_nil, totI_snoc]
    rw [ih, ← wsum_add]
theorem totI_le {a b : List Int} (hl : a.length = b.length) (h : ∀ i, i < a.length → a[i]?.getD 0 ≤ b[i]?.getD 0) : totI a ≤ totI b := by
  induction a generalizing b with
  | nil => cases b with
    | nil => exact Int.le_refl _
    | cons _ _ => simp at hl
  | cons x a ih => cases b with
    | nil => simp at hl
    | cons y b =>
      have h0 := h 0 (by simp)
      have ih := ih (b := b) (by simpa using hl) (fun i hi => by have := h (i + 1) (by simp [hi]); simpa using this)
      simp only [totI_cons]
      simp at h0
      omega
/-- One number of n is 1, the others are 0: or all are 0. -/
theorem totI_one (n : Nat) (z : Int) : totI ((List.range n).map fun (k : Nat) => if z = (k : Int) then (1 : Int) else 0) = if 0 ≤ z ∧ z < (n : Int) then 1 else 0 := by
  induction n with
  | zero =>
    rw [if_neg (by omega)]; rfl
  | succ n ih =>
    simp only [List.range_succ, List.map_append, List.map_cons, List.map_nil, totI_snoc]
    rw [ih]
    by_cases h1 : z = (n : Int)
    · rw [if_neg (by omega), if_pos h1, if_pos (by omega)]; rfl
    · rw [if_neg h1]
      by_cases h2 : 0 ≤ z ∧ z < (n : Int)
      · rw [if_pos h2, if_pos (by omega)]; rfl
      · rw [if_neg h2, if_neg (by omega)]; rfl

end Go.Proofs.Ytmbhcgdapglbgaa

namespace Go.Proofs.Ytmbhcgdapglbgaa

/-- The first of zs who has not left, or -1. -/
def firstL : List Int → List Bool → Int
  | [], _ => -1
  | z :: t, L => if L[z.toNat]?.getD false = true then firstL t L else z
theorem firstL_app {pre : List Int} {L : List Bool} (h : ∀ z ∈ pre, L[z.toNat]?.getD false = true) (rest : List Int) : firstL (pre ++ rest) L = firstL rest L := by
  induction pre with
  | nil => rfl
  | cons z t ih =>
    rw [List.cons_append, firstL, if_pos (h z (by simp))]
    exact ih (fun u hu => h u (by simp [hu]))
def firstB (zs : List Int) (L : List Bool) : Int := if validB zs (L.length : Int) = true then firstL zs L else -1

theorem firstL_mem (zs : List Int) (L : List Bool) : firstL zs L = -1 ∨ firstL zs L ∈ zs := by
  induction zs with
  | nil => exact .inl rfl
  | cons z t ih =>
    unfold firstL
    split
    · rcases ih with h | h
      · exact .inl h
      · exact .inr (by simp [h])
    · exact .inr (by simp)
theorem firstL_here {zs : List Int} {L : List Bool} (hz : ∀ z ∈ zs, 0 ≤ z) (h : 0 ≤ firstL zs L) : L[(firstL zs L).toNat]?.getD false = false := by
  induction zs with
  | nil => simp [firstL] at h
  | cons z t ih =>
    unfold firstL at h ⊢
    split
    · rename_i h1
      rw [if_pos h1] at h
      exact ih (fun u hu => hz u (by simp [hu])) h
    · rename_i h1
      simpa using h1
theorem set_at (L : List Bool) (k i : Nat) (h : k < L.length) : (L.set k true)[i]?.getD false = if i = k then true else L[i]?.getD false := by
  rw [List.getElem?_set]
  by_cases e : k = i
  · subst e; simp [h]
  · rw [if_neg e, if_neg (fun h => e h.symm)]
/-- Who stays is still the first one when another one leaves. -/
theorem firstL_set {zs : List Int} {L : List Bool} {k : Nat} (hk : k < L.length) (hz : ∀ z ∈ zs, 0 ≤ z) (h : firstL zs L ≠ (k : Int)) : firstL zs (L.set k true) = firstL zs L := by
  induction zs with
  | nil => rfl
  | cons z t ih =>
    have hz0 := hz z (by simp)
    unfold firstL at h ⊢
    by_cases h1 : L[z.toNat]?.getD false = true
    · rw [if_pos h1] at h ⊢
      rw [if_pos (by rw [set_at _ _ _ hk]; split <;> simp [h1])]
      exact ih (fun u hu => hz u (by simp [hu])) h
    · rw [if_neg h1] at h ⊢
      rw [if_neg (by rw [set_at _ _ _ hk, if_neg (by omega)]; exact h1)]
theorem firstL_set_some {zs : List Int} {L : List Bool} {k : Nat} (hk : k < L.length) (hz : ∀ z ∈ zs, 0 ≤ z) (h : 0 ≤ firstL zs (L.set k true)) : 0 ≤ firstL zs L := by
  by_cases e : firstL zs L = (k : Int)
  · omega
  · rwa [firstL_set hk hz e] at h
theorem firstL_none (zs : List Int) (n : Nat) : firstL zs (List.replicate n false) = zs.head?.getD (-1) := by
  cases zs with
  | nil => rfl
  | cons z t =>
    unfold firstL
    rw [if_neg (by rw [List.getElem?_replicate]; split <;> simp)]
    rfl

end Go.Proofs.Ytmbhcgdapglbgaa

namespace Go.Proofs.Ytmbhcgdapglbgaa

/-- Whether a text's first candidate is k. -/
def oneF (L : List Bool) (k : Nat) (t : ByteArray) : Int := if firstL (parseL t) L = (k : Int) then 1 else 0
/-- The counts of first preferences. -/
def countsL (ps : List Pl) (L : List Bool) : List Int := (List.range L.length).map fun k => wsum (oneF L k) ps
theorem countsL_length (ps : List Pl) (L : List Bool) : (countsL ps L).length = L.length := by simp [countsL]
theorem countsL_at (ps : List Pl) (L : List Bool) {k : Nat} (h : k < L.length) : (countsL ps L)[k]?.getD 0 = wsum (oneF L k) ps := by
  simp [countsL, h]
theorem countsL_nil (L : List Bool) : countsL [] L = List.replicate L.length 0 := by
  refine List.ext_getElem (by simp [countsL]) (fun i h1 h2 => ?_)
  simp [countsL, wsum_nil]
theorem countsL_hit {pre : List Pl} {p : Pl} {L : List Bool} {k : Nat} (hk : k < L.length) (h : firstL (parseL p.1) L = (k : Int)) : countsL (pre ++ [p]) L = (countsL pre L).set k ((countsL pre L)[k]?.getD 0 + p.2) := by
  rw [countsL_at _ _ hk]
  refine List.ext_getElem (by simp [countsL]) (fun i h1 h2 => ?_)
  have hi : i < L.length := by rwa [countsL_length] at h1
  rw [List.getElem_set]
  simp only [countsL, List.getElem_map, List.getElem_range, wsum_snoc]
  by_cases e : k = i
  · subst e
    rw [if_pos rfl]
    simp only [oneF, h, if_true, Int.one_mul]
  · rw [if_neg e]
    have : oneF L i p.1 = 0 := by unfold oneF; rw [h, if_neg (by omega)]
    rw [this, Int.zero_mul, Int.add_zero]
theorem countsL_miss {pre : List Pl} {p : Pl} {L : List Bool} (h : firstL (parseL p.1) L < 0) : countsL (pre ++ [p]) L = countsL pre L := by
  refine List.ext_getElem (by simp [countsL]) (fun i h1 h2 => ?_)
  simp only [countsL, List.getElem_map, List.getElem_range, wsum_snoc]
  have : oneF L i p.1 = 0 := by unfold oneF; rw [if_neg (by omega)]
  rw [this, Int.zero_mul, Int.add_zero]

theorem oneF_low (L : List Bool) (k : Nat) (t : ByteArray) : 0 ≤ oneF L k t := by unfold oneF; split <;> omega
theorem oneF_high (L : List Bool) (k : Nat) (t : ByteArray) : oneF L k t ≤ 1 := by unfold oneF; split <;> omega
theorem parse_pos (t : ByteArray) : ∀ z ∈ parseL t, 0 ≤ z := by
  intro z hz
  cases hv : validB (nums t) 5
  · rw [parseL_no hv] at hz; cases hz
  · rw [parseL_ok hv] at hz; exact ((vB_mem hv).2.2 z hz).1
/-- **Each ballot counts once.** -/
theorem counts_left {ps : List Pl} {L : List Bool} {k : Nat} (hk : k < L.length) (h : L[k]?.getD false = true) : (countsL ps L)[k]?.getD 0 = 0 := by
  rw [countsL_at _ _ hk, ← wsum_zero ps]
  refine wsum_congr (fun p _ => ?_)
  unfold oneF
  refine if_neg (fun e => ?_)
  have := firstL_here (parse_pos p.1) (L := L) (by omega)
  rw [e, Int.toNat_natCast, h] at this
  cases this
theorem counts_low {ps : List Pl} {L : List Bool} {k : Nat} (hk : k < L.length) (hp : ∀ p ∈ ps, 1 ≤ p.2) : 0 ≤ (countsL ps L)[k]?.getD 0 := by
  rw [countsL_at _ _ hk]
  exact wsum_nonneg (fun p _ => oneF_low _ _ _) hp
/-- The sum of all counts: each ballot that names somebody who is there. -/
def someF (L : List Bool) (t : ByteArray) : Int := if 0 ≤ firstL (parseL t) L ∧ firstL (parseL t) L < (L.length : Int) then 1 else 0
theorem counts_sum (ps : List Pl) (L : List Bool) : totI (countsL ps L) = wsum (someF L) ps := by
  unfold countsL
  rw [totI_wsum]
  refine wsum_congr (fun p _ => ?_)
  exact totI_one L.length _
theorem counts_most {ps : List Pl} {L : List Bool} (hp : ∀ p ∈ ps, 1 ≤ p.2) : totI (countsL ps L) ≤ sumL ps := by
  rw [counts_sum]
  exact wsum_most (fun p _ => by unfold someF; split <;> omega) hp
theorem count_most {ps : List Pl} {L : List Bool} {k : Nat} (hk : k < L.length) (hp : ∀ p ∈ ps, 1 ≤ p.2) : (countsL ps L)[k]?.getD 0 ≤ sumL ps := by
  rw [countsL_at _ _ hk]
  exact wsum_most (fun p _ => oneF_high _ _ _) hp
/-- **Who stays loses nothing.** -/
theorem counts_more {ps : List Pl} {L : List Bool} {k i : Nat} (hk : k < L.length) (hi : i < L.length) (hki : i ≠ k) (hp : ∀ p ∈ ps, 1 ≤ p.2) : (countsL ps L)[i]?.getD 0 ≤ (countsL ps (L.set k true))[i]?.getD 0 := by
  rw [countsL_at _ _ hi, countsL_at _ _ (by rw [List.length_set]; exact hi)]
  refine wsum_le (fun p _ => ?_) hp
  unfold oneF
  by_cases e : firstL (parseL p.1) L = (i : Int)
  · have e2 := firstL_set hk (parse_pos p.1) (show firstL (parseL p.1) L ≠ (k : Int) by omega)
    rw [if_pos e, if_pos (by rw [e2, e])]
    exact Int.le_refl _
  · rw [if_neg e]; split <;> omega
theorem counts_more_sum {ps : List Pl} {L : List Bool} {k : Nat} (hk : k < L.length) (hp : ∀ p ∈ ps, 1 ≤ p.2) : totI (countsL ps (L.set k true)) ≤ totI (countsL ps L) := by
  rw [counts_sum, counts_sum]
  refine wsum_le (fun p _ => ?_) hp
  unfold someF
  by_cases e : firstL (parseL p.1) L = (k : Int)
  · rw [if_pos (show 0 ≤ firstL (parseL p.1) L ∧ firstL (parseL p.1) L < (L.length : Int) by omega)]
    split <;> omega
  · rw [firstL_set hk (parse_pos p.1) e, List.length_set]
    exact Int.le_refl _
/-- **Counts of parts add up.** -/
theorem counts_parts (a b : List Pl) {L : List Bool} {i : Nat} (hi : i < L.length) : (countsL (a ++ b) L)[i]?.getD 0 = (countsL a L)[i]?.getD 0 + (countsL b L)[i]?.getD 0 := by
  rw [countsL_at _ _ hi, countsL_at _ _ hi, countsL_at _ _ hi, wsum_app]
theorem counts_merge (a b : List Pl) {L : List Bool} {i : Nat} (hi : i < L.length) : (countsL (mergeL a b) L)[i]?.getD 0 = (countsL a L)[i]?.getD 0 + (countsL b L)[i]?.getD 0 := by
  rw [countsL_at _ _ hi, countsL_at _ _ hi, countsL_at _ _ hi, wsum_merge]
theorem counts_put (a : List Pl) (t : ByteArray) (m : Int) {L : List Bool} {i : Nat} (hi : i < L.length) : (countsL (putL a t m) L)[i]?.getD 0 = (countsL a L)[i]?.getD 0 + oneF L i t * m := by
  rw [countsL_at _ _ hi, countsL_at _ _ hi, wsum_put]

/-- Piles fit n candidates. -/
def fitsB (ps : List Pl) (n : Int) : Bool := pilesB ps && (inB n 1 5 && ps.all fun p => validB (nums p.1) n)

end Go.Proofs.Ytmbhcgdapglbgaa
