/-
  impl.PairCounts, impl.PairPaths and impl.PairWinner: for every list of piles and every number of candidates.
-/
import Derived.Test.YtaaamidkfhabnabGrp12
import Derived.Test.YtaaamidkfhabnabStrI
import Derived.Test.YtaaamidkfhabnabWinsS
namespace Go.Proofs.Ytaaamidkfhabnab
open Go.RowKit

attribute [local go_sem] Oper.semAt_some

/-- A table of the call's own that is returned with true, or nothing. -/
def GaveI (w : World) (B : Nat) (ok : Bool) (n : Nat) (M : Nat → Nat → Int) (e : Ending) (w' : World) : Prop :=
  (ok = false ∧ e = .returned (.tuple #[.slice none 0 0, .bool false]) ∧ Below w.heap.size w w') ∨
  (ok = true ∧ ∃ g G, e = .returned (.tuple #[.slice (some ⟨g, 0, none⟩) n n, .bool true]) ∧ Tb 3 29 w' B (some ⟨g, 0, none⟩) n n n n G (fun _ => n) (fun x y => .int .i64 (M x y)) ∧ (∀ j, j < n → g < G j) ∧ Below w.heap.size w w')

set_option maxRecDepth 100000 in
set_option maxHeartbeats 4000000 in
/-- **impl.PairPaths**. -/
theorem implPairPaths_as (a : Option Addr) (len cap : Nat) (ps : List Pl) (n : Int) (v : Bool) (w : World) (h : IsPiles w a len cap ps) (hs : Small ps) (hv : fitsB ps n = v) :
    Calls Try.prog 19 #[.slice a len cap, .int .i64 n] w (GaveI w w.heap.size v n.toNat (pathL (pairF ps) n.toNat)) := by
  have HI := Lib.hid h
  have HS := Lib.hid hs
  clear h hs
  have hn : v = true → 1 ≤ n ∧ n ≤ 5 := fun e => by subst e; obtain ⟨_, h1, h5, _⟩ := fits_parts hv; exact ⟨h1, h5⟩
  have HV := Lib.hid hv
  clear hv
  go_enter Try.func19, Try.ntmps19
  go_wp2_with fail
  refine (newPairTable_as _ len cap ps n v _ HI.out HS.out HV.out).mono ?_
  rintro e1 w1 (⟨rfl, rfl, hb1⟩ | ⟨rfl, g, rfl, hT, hb1⟩)
  · have B1 := Lib.hid hb1
    clear hb1 hn
    go_wp2
    go_ret2
    exact .inl ⟨rfl, rfl, B1.out⟩
  · obtain ⟨h1, h5⟩ := hn rfl
    obtain ⟨N, rfl⟩ : ∃ N : Nat, n = (N : Int) := ⟨n.toNat, by omega⟩
    rw [Int.toNat_natCast] at hT ⊢
    have HR := Lib.hid (steps_row hT (by omega))
    have B1 := Lib.hid hb1
    clear hb1 hn hT
    go_wp2_with fail
    refine (strongI_any N _ _ _ _ (pairF ps) _ steps_ent steps1_ent HR.out (by omega) (by omega)).mono ?_
    rintro e2 w2 ⟨gt, G, rfl, hT2, hG, hb2⟩
    have T2 := Lib.hid (hT2.mono B1.out.size)
    have HG := Lib.hid hG
    have B2 := Lib.hid (B1.out.trans (hb2.mono B1.out.size))
    clear hT2 hG hb2 HR
    go_wp2
    go_ret2
    exact .inr ⟨rfl, gt, G, rfl, T2.out, HG.out, B2.out⟩

theorem over_wins (M : Nat → Nat → Int) (n x : Nat) : overB (fun x y => decide (M y x < M x y)) n x = winsB M n x := rfl
theorem over_head (M : Nat → Nat → Int) (n : Nat) : pairW M n = (match candTo (overB (fun x y => decide (M y x < M x y)) n) n with | [] => -1 | z :: _ => z) := by
  rcases pairW_cases M n with ⟨h, hno⟩ | ⟨x, hx, hw, h⟩
  · rw [h]
    have : candTo (overB (fun x y => decide (M y x < M x y)) n) n = [] := by
      rw [List.eq_nil_iff_forall_not_mem]
      intro z hz
      obtain ⟨y, hy, hb, _⟩ := candTo_mem.1 hz
      exact hno y hy ((winsB_iff M n y).1 (by rw [← over_wins]; exact hb))
    rw [this]
  · rw [h]
    have hmem := (candTo_has (B := overB (fun x y => decide (M y x < M x y)) n) hx).2 (by rw [over_wins]; exact (winsB_iff M n x).2 hw)
    cases hl : candTo (overB (fun x y => decide (M y x < M x y)) n) n with
    | nil => rw [hl] at hmem; cases hmem
    | cons z t =>
      obtain ⟨y, hy, hb, hz⟩ := candTo_mem.1 (show z ∈ candTo (overB (fun x y => decide (M y x < M x y)) n) n by rw [hl]; simp)
      rw [hz, wins_one hx hy hw ((winsB_iff M n y).1 (by rw [← over_wins]; exact hb))]

set_option maxRecDepth 100000 in
set_option maxHeartbeats 4000000 in
/-- **impl.PairWinner**. -/
theorem implPairWinner_as (a : Option Addr) (len cap : Nat) (ps : List Pl) (n : Int) (r : Int) (w : World) (h : IsPiles w a len cap ps) (hs : Small ps) (hr : winnerF ps n = r) :
    Calls Try.prog 10 #[.slice a len cap, .int .i64 n] w fun e w' => e = .returned (.int .i64 r) ∧ Below w.heap.size w w' := by
  have HI := Lib.hid h
  have HS := Lib.hid hs
  clear h hs
  obtain ⟨v, hv⟩ : ∃ v, fitsB ps n = v := ⟨_, rfl⟩
  have hn : v = true → 1 ≤ n ∧ n ≤ 5 := fun e => by subst e; obtain ⟨_, h1, h5, _⟩ := fits_parts hv; exact ⟨h1, h5⟩
  have HV := Lib.hid hv
  have HR0 := Lib.hid hr
  clear hv hr
  go_enter Try.func10, Try.ntmps10
  go_wp2_with fail
  refine (newPairTable_as _ len cap ps n v _ HI.out HS.out HV.out).mono ?_
  rintro e1 w1 (⟨rfl, rfl, hb1⟩ | ⟨rfl, g, rfl, hT, hb1⟩)
  · have B1 := Lib.hid hb1
    have e : Hid (r = -1) := by rw [Hid, ← HR0.out, winnerF, HV.out]; rfl
    clear hb1 hn
    go_wp2
    go_ret
    exact ⟨ret_int e.out.symm, B1.out⟩
  · obtain ⟨h1, h5⟩ := hn rfl
    obtain ⟨N, rfl⟩ : ∃ N : Nat, n = (N : Int) := ⟨n.toNat, by omega⟩
    rw [Int.toNat_natCast] at hT
    have e : Hid (r = pairW (pairF ps) N) := by rw [Hid, ← HR0.out, winnerF, HV.out]; rfl
    have HR := Lib.hid (beats_row hT (by omega))
    have B1 := Lib.hid hb1
    obtain ⟨L, hL⟩ : ∃ L, candTo (overB (fun x y => decide (pairF ps y x < pairF ps x y)) N) N = L := ⟨_, rfl⟩
    have hlen : L.length ≤ 5 := by rw [← hL]; exact Nat.le_trans (candTo_short _ _) (by omega)
    have HL := Lib.hid hL
    clear hb1 hn hT hL
    go_wp2_with fail
    refine (over_any N _ _ _ _ (fun x y => decide (pairF ps y x < pairF ps x y)) L _ beats_ent beats1_ent HR.out (by omega) HL.out).mono ?_
    rintro e2 w2 ⟨ao, co, rfl, ho, hb2⟩
    have B2 := Lib.hid (B1.out.trans (hb2.mono B1.out.size))
    have HH := over_head (pairF ps) N
    rw [HL.out] at HH
    cases L with
    | nil =>
      have e3 : Hid (r = -1) := by unfold Hid; rw [e.out, HH]
      have hz : ([] : List Int).length = 0 := rfl
      rw [hz]
      clear HH ho hb2 HR
      go_wp2
      go_ret
      exact ⟨ret_int e3.out.symm, B2.out⟩
    | cons z t =>
      have e3 : Hid (r = z) := by unfold Hid; rw [e.out, HH]
      obtain ⟨_, _, _, hcells⟩ := IsInts.of_owned ho (by omega)
      obtain ⟨b, off, rfl, hb, hc⟩ := hcells (by simp)
      have hc0 := hc 0 (by simp)
      have hc1 : w2.cell? ⟨b, off, none⟩ = some (.int .i64 z) := by simpa using hc0
      obtain ⟨l, hl⟩ : ∃ l, (z :: t).length = l := ⟨_, rfl⟩
      have hl1 : 1 ≤ l := by rw [← hl]; simp
      have hne : ((l : Int) == 0) = false := beq_eq_false_iff_ne.2 (by omega)
      have hli : (0 : Int) < (l : Int) := by omega
      rw [hl]
      clear HH ho hb2 HR hcells hc hc0 hlen
      go_wp2
      go_ret
      exact ⟨ret_int e3.out.symm, B2.out⟩

end Go.Proofs.Ytaaamidkfhabnab
