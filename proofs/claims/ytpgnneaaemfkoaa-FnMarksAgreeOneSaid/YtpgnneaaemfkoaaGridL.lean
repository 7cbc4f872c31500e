/-
  The statements' own small functions at slices of slices of ints: szIntSS, toIntSS, eqIntSS, markIntSS. No condition but what each theorem says.
-/
import Derived.Test.YtpgnneaaemfkoaaGrid
import Derived.Test.YtpgnneaaemfkoaaMarkS
import Derived.Test.YtpgnneaaemfkoaaMarksOf
import Derived.Test.YtpgnneaaemfkoaaOpen
namespace Go.Proofs.Ytpgnneaaemfkoaa
open Go.RowKit

theorem slice_info : (Try.prog.info? 25).map (fun i => (i.zero, i.size, i.bytes)) = some (some (.slice none 0 0), 1, 24) := by kernel_rfl

/-- A slice of slices of ints that came in. -/
def IsRowSS (w : World) (a : Option Addr) (len cap : Nat) (A : Nat → Option Addr) (L C : Nat → Nat) (Z : Nat → List Int) : Prop :=
  (a = none ∧ len = 0 ∧ cap = 0) ∨ ∃ x, a = some x ∧ len ≤ cap ∧ cap ≤ maxLen ∧
    ∀ r, r < cap → w.cell? (x.add r) = some (.slice (A r) (L r) (C r)) ∧ L r ≤ C r ∧ C r ≤ maxLen ∧ (Z r).length = C r ∧ (A r = none → C r = 0) ∧ ∀ a', A r = some a' → ∀ c, c < C r → w.cell? (a'.add c) = some (.int .i64 ((Z r).getD c 0))

theorem IsRowSS.len_le {w : World} {a : Option Addr} {len cap : Nat} {A : Nat → Option Addr} {L C : Nat → Nat} {Z : Nat → List Int} (h : IsRowSS w a len cap A L C Z) : len ≤ maxLen := by
  rcases h with ⟨_, h, _⟩ | ⟨x, _, h1, h2, _⟩ <;> unfold maxLen at * <;> omega
theorem IsRowSS.head {w : World} {a : Option Addr} {len cap : Nat} {A : Nat → Option Addr} {L C : Nat → Nat} {Z : Nat → List Int} (h : IsRowSS w a len cap A L C Z) (hp : 0 < len) :
    ∃ b off, a = some ⟨b, off, none⟩ ∧ b < w.heap.size ∧ ∀ j, j < len → w.cell? ⟨b, off + j, none⟩ = some (.slice (A j) (L j) (C j)) ∧ L j ≤ maxLen := by
  rcases h with ⟨_, h, _⟩ | ⟨⟨b, off, spot⟩, rfl, h1, h2, h3⟩
  · omega
  · have h0 := (h3 0 (by omega)).1
    have hs : spot = none := by simpa [Addr.add] using World.cell?_spot h0
    subst hs
    refine ⟨b, off, rfl, World.block_lt_of_cell? w _ h0, fun j hj => ?_⟩
    obtain ⟨g1, g2, g3, _⟩ := h3 j (by omega)
    rw [add_spot] at g1
    exact ⟨g1, by omega⟩
theorem IsRowSS.rows {w : World} {a : Option Addr} {len cap : Nat} {A : Nat → Option Addr} {L C : Nat → Nat} {Z : Nat → List Int} (h : IsRowSS w a len cap A L C Z) (hl : len ≤ 1048576) (hL : ∀ j, j < len → L j ≤ 1048576) :
    IsRows w a len cap ((List.range len).map fun r => (Z r).take (L r)) := by
  rcases h with ⟨rfl, rfl, rfl⟩ | ⟨⟨b, off, spot⟩, rfl, h1, h2, h3⟩
  · exact ⟨rfl, Nat.le_refl _, by omega, fun h => by omega⟩
  · refine ⟨by simp, h1, by omega, fun hp => ?_⟩
    have h0 := (h3 0 (by omega)).1
    have hs : spot = none := by simpa [Addr.add] using World.cell?_spot h0
    subst hs
    refine ⟨b, off, rfl, World.block_lt_of_cell? w _ h0, fun j hj => ?_⟩
    obtain ⟨g1, g2, g3, g4, g5, g6⟩ := h3 j (by omega)
    rw [add_spot] at g1
    refine ⟨A j, L j, C j, g1, ?_⟩
    have e : ((List.range len).map fun r => (Z r).take (L r))[j]?.getD [] = (Z j).take (L j) := by simp [hj]
    rw [e]
    refine ⟨by simp; omega, g2, by have := hL j hj; omega, fun hp2 => ?_⟩
    cases hA : A j with
    | none => have := g5 hA; omega
    | some a' =>
      obtain ⟨b', off', spot'⟩ := a'
      have k0 := g6 _ hA 0 (by omega)
      have hs' : spot' = none := by simpa [Addr.add] using World.cell?_spot k0
      subst hs'
      refine ⟨b', off', rfl, World.block_lt_of_cell? w _ k0, fun i hi => ?_⟩
      have := g6 _ hA i (by omega)
      rw [List.getElem?_take_of_lt hi]
      rw [add_spot] at this
      simpa [List.getD] using this

set_option maxHeartbeats 1000000 in
/-- **szIntSS**, at the greatest size: -1, or all that came in is at most that. -/
theorem szIntSS_any (a : Option Addr) (len cap : Nat) (A : Nat → Option Addr) (L C : Nat → Nat) (Z : Nat → List Int) (w : World) (h : IsRowSS w a len cap A L C Z) :
    Calls Try.prog 18 #[.slice a len cap, .int .i64 1048576] w fun e w' => (∃ r : Int, e = .returned (.int .i64 r) ∧ (r = -1 ∨ (0 ≤ r ∧ len ≤ 1048576 ∧ ∀ j, j < len → L j ≤ 1048576))) ∧ w = w' := by
  have hml := h.len_le
  unfold maxLen at hml
  have H := Lib.hid h; clear h
  by_cases hl : 1048576 < len
  · have h1 : (1048576 : Int) < (len : Int) := by omega
    go_enter Try.func18, Try.ntmps18
    go_wp2
    go_ret
    exact ⟨⟨-1, rfl, .inl rfl⟩, rfl⟩
  · go_enter Try.func18, Try.ntmps18
    go_wp2
    go_loop [1, 5] (fun q i => ∃ (k : Nat) (z : Int), k ≤ len ∧ i = .int .i64 k ∧ q = .int .i64 z ∧ 0 ≤ z ∧ z ≤ 1048576 ∧ Hid (∀ j, j < k → L j ≤ 1048576)) (fun _ i => len - (intOf i).toNat)
    case atStart => exact ⟨0, 1048576 - len, Nat.zero_le _, rfl, rfl, by omega, by omega, fun j hj => by omega⟩
    case round =>
      obtain ⟨k, z, hk, rfl, rfl, hz0, hz1, hL⟩ := hrel
      by_cases hlt : k < len
      · obtain ⟨b, off, rfl, hb, hcell⟩ := H.out.head (by omega)
        obtain ⟨hck, hLk⟩ := hcell k hlt
        unfold maxLen at hLk
        obtain ⟨ak, hak⟩ : ∃ ak, A k = ak := ⟨_, rfl⟩
        obtain ⟨lk, hlk⟩ : ∃ lk, L k = lk := ⟨_, rfl⟩
        obtain ⟨ck, hck2⟩ : ∃ ck, C k = ck := ⟨_, rfl⟩
        rw [hak, hlk, hck2] at hck
        rw [hlk] at hLk
        have HLK := Lib.hid hlk
        clear hcell hak hck2 hlk
        by_cases hbig : z < (lk : Int)
        · go_wp2
          go_ret
          exact ⟨⟨-1, rfl, .inl rfl⟩, rfl⟩
        · go_wp2
          go_round
          case rel =>
            refine ⟨k + 1, z - lk, by omega, by go_num, by go_num, by omega, by omega, fun j hj => ?_⟩
            by_cases e : j = k
            · subst e; rw [HLK.out]; omega
            · exact hL.out j (by omega)
          case measure => simp [intOf]; omega
      · obtain rfl : k = len := by omega
        go_wp2
        go_ret
        exact ⟨⟨z, rfl, .inr ⟨hz0, by omega, hL.out⟩⟩, rfl⟩

theorem quiet_dr {P : Program} {f : FuncId} {args : Array Value} {w : World} {n : Nat} {v : Value}
    (h : Calls P f args (w.drewN n) fun e w' => e = .returned v ∧ Dr (w.drewN n) w') : Calls P f args (w.drewN n) fun e w'' => e = .returned v ∧ ∃ m, w'' = w.drewN m :=
  h.mono fun _ _ ⟨he, q, hq⟩ => ⟨he, n + q, by rw [hq]; simp⟩

set_option maxHeartbeats 1000000 in
/-- **eqIntSS**, at equal rows. -/
theorem eqIntSS_same (a : Option Addr) (len cap : Nat) (b : Option Addr) (cap' : Nat) (rs : List (List Int)) (w : World) (h : IsRows w a len cap rs) (h' : IsRows w b len cap' rs) :
    Calls Try.prog 20 #[.slice a len cap, .slice b len cap'] w fun e w' => e = .returned (.bool true) ∧ Dr w w' := by
  have hm := h.2.2.1
  have hne : ((len : Int) != (len : Int)) = false := by simp
  have H := Lib.hid h; clear h
  have H' := Lib.hid h'; clear h'
  go_enter Try.func20, Try.ntmps20
  go_wp2
  go_loopw [5] (fun i wr => ∃ k : Nat, k ≤ len ∧ i = .int .i64 k ∧ Dr w wr) (fun i _ => len - (intOf i).toNat)
  case atStart => exact ⟨0, Nat.zero_le _, rfl, Dr.refl _⟩
  case round =>
    obtain ⟨k, hk, rfl, hd⟩ := hrel
    by_cases hlt : k < len
    · obtain ⟨-, -, -, h4⟩ := H.out.dr hd
      obtain ⟨-, -, -, g4⟩ := H'.out.dr hd
      obtain ⟨b1, o1, rfl, hb1, hc1⟩ := h4 (by omega)
      obtain ⟨b2, o2, rfl, hb2, hc2⟩ := g4 (by omega)
      obtain ⟨a1, l1, c1, hz, hI1⟩ := hc1 k hlt
      obtain ⟨a2, l2, c2, hy, hI2⟩ := hc2 k hlt
      obtain ⟨z, hzz⟩ : ∃ z, rs[k]?.getD [] = z := ⟨_, rfl⟩
      rw [hzz] at hI1 hI2
      have HI1 := Lib.hid hI1
      have HI2 := Lib.hid hI2
      have he : eqB z z = true := eqB_self z
      clear h4 g4 hc1 hc2 hI1 hI2 hzz
      go_wp2
      go_quiet (first | (go_at_call 15; exact quiet_dr (eqIntS_any _ _ _ z _ _ _ z _ (HI1.out.drewN _) (HI2.out.drewN _))))
      go_wp2
      go_roundw
      case rel => exact ⟨k + 1, by omega, by go_num, hd.drewN _⟩
      case measure => simp [intOf]; omega
    · obtain rfl : k = len := by omega
      go_wp2
      go_ret
      exact ⟨rfl, hd⟩

end Go.Proofs.Ytpgnneaaemfkoaa
