/-
  spec.PairPaths: for every list of piles and every number of candidates.
-/
import Derived.Test.YtaaamidkfhabnaaWinsS
import Derived.Test.YtaaamidkfhabnaaPathsS
namespace Go.Proofs.Ytaaamidkfhabnaa
open Go.RowKit

attribute [local go_sem] Oper.semAt_some

set_option maxRecDepth 100000 in
set_option maxHeartbeats 2000000 in
/-- **spec.PairPaths**. -/
theorem specPairPaths_as (a : Option Addr) (len cap : Nat) (ps : List Pl) (n : Int) (v : Bool) (w : World) (h : IsPiles w a len cap ps) (hs : Small ps) (hv : fitsB ps n = v) :
    Calls Try.prog 31 #[.slice a len cap, .int .i64 n] w (GaveT w w.heap.size v n.toNat (pathL (pairF ps) n.toNat)) := by
  have HI := Lib.hid h
  have HS := Lib.hid hs
  clear h hs
  cases v
  · have HV := Lib.hid hv; clear hv
    go_enter Try.func31, Try.ntmps31
    go_wp2_with fail
    refine (specFits_as _ len cap ps n false _ HI.out HS.out HV.out).mono ?_
    rintro e1 w1 ⟨rfl, hb1⟩
    go_wp2
    go_ret2
    exact ⟨_, _, fun _ => 0, fun _ => 0, rfl, (by intro h; cases h), hb1.alloc hb1.size _⟩
  · obtain ⟨hp, hn1, hn5, -⟩ := fits_parts hv
    obtain ⟨N, rfl⟩ : ∃ N : Nat, n = (N : Int) := ⟨n.toNat, by omega⟩
    have HV := Lib.hid hv
    have HP := Lib.hid hp
    clear hv hp
    have hN1 : 1 ≤ N := by omega
    have hN5 : N ≤ 5 := by omega
    go_enter Try.func31, Try.ntmps31
    go_wp2_with fail
    refine (specFits_as _ len cap ps (N : Int) true _ HI.out HS.out HV.out).mono ?_
    rintro e1 w1 ⟨rfl, hb1⟩
    have I1 := Lib.hid (HI.out.below hb1)
    have B1 := Lib.hid hb1
    clear hb1
    go_wp2_with fail
    refine (l13Counts_any _ len cap ps N _ I1.out HS.out HP.out hN1 hN5).mono ?_
    rintro e1 w2 ⟨am, cm, G, C, rfl, hT, hb2⟩
    obtain ⟨gm, rfl, -, -, -⟩ := hT.head (by omega)
    have T2 := Lib.hid hT
    have B2 := Lib.hid (B1.out.trans (hb2.mono B1.out.size))
    clear hT hb2
    go_wp2_with fail
    refine (l13Paths_any N _ gm cm G C (pairF ps) _ T2.out hN1 hN5).mono ?_
    rintro e1 w3 ⟨ar, cr, G2, C2, rfl, hT, hb3⟩
    have T3 := Lib.hid hT
    have B3 := Lib.hid (B2.out.trans (hb3.mono B2.out.size))
    clear hT hb3
    go_wp2
    go_ret2
    exact ⟨ar, cr, G2, C2, by simp, fun _ => by rw [Int.toNat_natCast]; exact T3.out.mono B2.out.size, B3.out⟩

end Go.Proofs.Ytaaamidkfhabnaa
