/-
  MADE BY PROGRAM (gen_phb.py): sync.WaitGroup's Add(1), walked under such a rely.
-/
import Derived.Test.YtgkakgibgfehaaaSh15
import Derived.Conc.WgGenN3
namespace Go.Proofs.Ytgkakgibgfehaaa.Ph
open Go.Conc Go.ConcN Go.RowKit Go.Conc.Lib Go.ConcR.Gen Go.ConcN.Gen
open Go.ConcR (KK wgBlock WgAt stA smA rd wr mk Payload DC0)
section
variable {L : WgLink} {P : Program} {R : World → World → Prop} {Wg : Nat} {F : World → Prop}
  {b₀ : Frame} {a₀ : Act} {ops₀ : Array Oper} {i₀ : Nat} {rest₀ : List Nat} {k₀ : List Item} {cs : List Frame} {Next : Goroutine → World → Prop} {mT : Nat}

set_option maxRecDepth 100000 in
set_option maxHeartbeats 8000000 in
theorem add_walk (H : WgLib P L) (hRl : ∀ {w w₁ : World}, F w ∧ WgLive L.tWg Wg w → R w w₁ → F w₁ ∧ WgLive L.tWg Wg w₁) (hSt : ∀ (w : World) (a : Addr) (v : Value), a.block = Wg → F w → F (w.setCell a v)) (hT : ∀ w : World, F w ∧ WgLive L.tWg Wg w → Goes P true R DC0 Next mT (G (b₀.at (a₀.put ((ops₀[i₀]?).bind (·.dst)) (.tuple #[])) (.inRegion ops₀ rest₀ :: k₀)) cs) w) (w : World) (hF : F w ∧ WgLive L.tWg Wg w) :
    Goes P true R DC0 (Ad1 P L.tWg Wg R Next) 300
      (G ((base L.add).at ⟨#[.pointer (some ⟨Wg, 0, none⟩), .int .i64 1, undef, undef, undef, undef, undef, undef, undef, undef, undef, undef, undef, undef, undef, undef, undef, undef, undef, undef, undef, undef, undef, undef, undef, undef, undef, undef, undef, undef, undef, undef, undef, undef, undef, undef, undef, undef, undef, undef, undef, undef, undef, undef, undef, undef, undef, undef, undef, undef, undef, undef, undef, undef, undef, undef, undef, undef, undef, undef, undef, undef, undef, undef, undef, undef, undef, undef, undef, undef, undef, undef, undef, undef, undef, undef, undef, undef, undef, undef, undef, undef, undef, undef, undef, undef, undef, undef, undef, undef, undef, undef, undef, undef, undef, undef, undef, undef, undef, undef, undef, undef, undef, undef, undef, undef, undef, undef, undef, undef, undef, undef, undef, undef, undef, undef, undef], []⟩ [.code (body_add L)]) (b₀.at a₀ (.inRegion ops₀ (i₀ :: rest₀) :: k₀) :: cs)) w := by
  lib_facts
  simp only [body_add, addFn, Option.getD_some]
  iterate 12 (first
      | u_c stepG_region_end hRl hF
      | u_c stepG_seq hRl hF
      | u_reg hRl hF
      | u_skip hRl hF
      | u_cond true hRl hF
      | u_cond false hRl hF
      | u_c stepG_skip hRl hF
      | u_c stepG_block hRl hF
      | u_c stepG_loop hRl hF
      | u_c stepG_inBlock hRl hF
      | u_c stepG_inLoop hRl hF
      | u_c stepG_ret' hRl hF
      | u_leave1 H.f_uAdd hRl hF
      | u_leave1 H.f_uLoad hRl hF
      | u_leave1 H.f_uCas hRl hF
      | u_defer hRl hF
      | u_bub hRl hF
      | u_op hRl hF
      | u_cnd true hRl hF
      | u_cnd false hRl hF
      | u_call H.f_uAdd (nm_uAdd L) uAddFn hRl hF
      | u_call H.f_uLoad (nm_uLoad L) uLoadFn hRl hF
      | u_call H.f_uCas (nm_uCas L) uCasFn hRl hF
      | u_conv H.underlying_tPU32 H.room_tU32 (WgLive.cell1 hF.2).choose_spec hRl hF
      | u_conv H.underlying_tWgP H.room_tWg (WgLive.cell0 hF.2).choose_spec hRl hF)
  refine Goes.stop (fun w₁ h₁ => ?_)
  replace hF := hRl hF h₁
  clear h₁
  refine ⟨rfl, _, stepG_mark0 .disable (by simp) rfl rfl (by k_ne) rfl H.f_disable (x_disable_n L) (x_disable_b L) (x_disable_x L) (x_disable_f L), 300, ?_⟩
  walk_nrm
  iterate 34 (first
      | u_c stepG_region_end hRl hF
      | u_c stepG_seq hRl hF
      | u_reg hRl hF
      | u_skip hRl hF
      | u_cond true hRl hF
      | u_cond false hRl hF
      | u_c stepG_skip hRl hF
      | u_c stepG_block hRl hF
      | u_c stepG_loop hRl hF
      | u_c stepG_inBlock hRl hF
      | u_c stepG_inLoop hRl hF
      | u_c stepG_ret' hRl hF
      | u_leave1 H.f_uAdd hRl hF
      | u_leave1 H.f_uLoad hRl hF
      | u_leave1 H.f_uCas hRl hF
      | u_defer hRl hF
      | u_bub hRl hF
      | u_op hRl hF
      | u_cnd true hRl hF
      | u_cnd false hRl hF
      | u_call H.f_uAdd (nm_uAdd L) uAddFn hRl hF
      | u_call H.f_uLoad (nm_uLoad L) uLoadFn hRl hF
      | u_call H.f_uCas (nm_uCas L) uCasFn hRl hF
      | u_conv H.underlying_tPU32 H.room_tU32 (WgLive.cell1 hF.2).choose_spec hRl hF
      | u_conv H.underlying_tWgP H.room_tWg (WgLive.cell0 hF.2).choose_spec hRl hF)
  refine Goes.stop (fun w₂ h₁ => ?_)
  replace hF := hRl hF h₁
  clear h₁
  refine ⟨rfl, fun v hv hw => ?_⟩
  rcases Nat.eq_zero_or_pos v with rfl | hvp
  · replace hw : WgAt L.tWg Wg w₂ 0 0 := by simpa using hw
    have z : (((0 : Nat) : Int) + 1) * KK = KK := by simp
    rw [z]
    have e0 : IntKind.u64.wrap (0 + 4294967296) = KK := by decide
    refine ⟨_, (stepG_add_atomic rfl rfl (by k_ne) rfl H.f_addU64 (x_addU64_n L) (x_addU64_b L) (x_addU64_x L) .u64 (x_addU64_f L) rfl rfl hw.cellSt (hw.thaw 0)).trans (by rw [e0]; rfl), .inr ⟨300, ?_⟩⟩
    replace hF : F (w₂.setCell (stA Wg) (.int .u64 KK)) ∧ WgLive L.tWg Wg (w₂.setCell (stA Wg) (.int .u64 KK)) := ⟨hSt _ _ _ rfl hF.1, ⟨_, _, hw.setSt _⟩⟩
    clear hw
    simp only [KK] at hF ⊢
    walk_nrm
    iterate 53 (first
        | u_c stepG_region_end hRl hF
        | u_c stepG_seq hRl hF
        | u_reg hRl hF
        | u_skip hRl hF
        | u_cond true hRl hF
        | u_cond false hRl hF
        | u_c stepG_skip hRl hF
        | u_c stepG_block hRl hF
        | u_c stepG_loop hRl hF
        | u_c stepG_inBlock hRl hF
        | u_c stepG_inLoop hRl hF
        | u_c stepG_ret' hRl hF
        | u_leave1 H.f_uAdd hRl hF
        | u_leave1 H.f_uLoad hRl hF
        | u_leave1 H.f_uCas hRl hF
        | u_defer hRl hF
        | u_bub hRl hF
        | u_op hRl hF
        | u_cnd true hRl hF
        | u_cnd false hRl hF
        | u_call H.f_uAdd (nm_uAdd L) uAddFn hRl hF
        | u_call H.f_uLoad (nm_uLoad L) uLoadFn hRl hF
        | u_call H.f_uCas (nm_uCas L) uCasFn hRl hF
        | u_conv H.underlying_tPU32 H.room_tU32 (WgLive.cell1 hF.2).choose_spec hRl hF
        | u_conv H.underlying_tWgP H.room_tWg (WgLive.cell0 hF.2).choose_spec hRl hF)
    refine Goes.stop (fun w₅ h₅ => ?_)
    replace hF := hRl hF h₅
    clear h₅
    refine ⟨rfl, _, ⟨Wg, 1, none⟩, rfl, stepG_markAt .read (by simp) rfl rfl (by k_ne) rfl H.f_raceRead (x_raceRead_n L) (x_raceRead_b L) (x_raceRead_x L) (x_raceRead_f L) (ad := ⟨Wg, 1, none⟩) (by simp [Act.eval]), 300, ?_⟩
    walk_nrm
    iterate 39 (first
        | u_c stepG_region_end hRl hF
        | u_c stepG_seq hRl hF
        | u_reg hRl hF
        | u_skip hRl hF
        | u_cond true hRl hF
        | u_cond false hRl hF
        | u_c stepG_skip hRl hF
        | u_c stepG_block hRl hF
        | u_c stepG_loop hRl hF
        | u_c stepG_inBlock hRl hF
        | u_c stepG_inLoop hRl hF
        | u_c stepG_ret' hRl hF
        | u_leave1 H.f_uAdd hRl hF
        | u_leave1 H.f_uLoad hRl hF
        | u_leave1 H.f_uCas hRl hF
        | u_defer hRl hF
        | u_bub hRl hF
        | u_op hRl hF
        | u_cnd true hRl hF
        | u_cnd false hRl hF
        | u_call H.f_uAdd (nm_uAdd L) uAddFn hRl hF
        | u_call H.f_uLoad (nm_uLoad L) uLoadFn hRl hF
        | u_call H.f_uCas (nm_uCas L) uCasFn hRl hF
        | u_conv H.underlying_tPU32 H.room_tU32 (WgLive.cell1 hF.2).choose_spec hRl hF
        | u_conv H.underlying_tWgP H.room_tWg (WgLive.cell0 hF.2).choose_spec hRl hF)
    refine Goes.stop (fun w₃ h₁ => ?_)
    replace hF := hRl hF h₁
    clear h₁
    refine ⟨rfl, _, stepG_unwind_entry (v := .tuple #[]) (evs := #[mk .enable]) rfl H.f_enable (x_enable_n L) (x_enable_b L) (x_enable_x L) (x_enable_f L) (by simp [Extern.Race.none_]) (by simp [mk]) (by simp [mk]), mT + 3, ?_⟩
    u_leave0 H.f_add hRl hF
    exact goes_up (by omega) (hT _ hF)
  · obtain ⟨V, hV⟩ : ∃ V : Int, V = (v : Int) + 1 := ⟨_, rfl⟩
    obtain ⟨S, hS⟩ : ∃ S : Int, S = V * KK := ⟨_, rfl⟩
    have eS : IntKind.u64.wrap ((v : Int) * KK + 4294967296) = S := by rw [IntKind.wrap_u64, hS, hV]; simp only [KK]; omega
    rw [← hV, ← hS]
    have a1 : S / 4294967296 = V := by rw [hS]; simp only [KK]; omega
    have b1 : bits .and .u64 S 2147483648 = 0 := by rw [hS, hV]; have := st_flag (v + 1) 0 (by omega) (by omega); simpa [KK] using this
    have b2 : bits .and .u64 S 2147483647 = 0 := by rw [hS, hV]; have := st_waiters (v + 1) 0 (by omega) (by omega); simpa [KK] using this
    have c1 : IntKind.i32.wrap V = V := by rw [IntKind.wrap_i32]; omega
    have hV1 : 1 < V := by omega
    have hV2 : V < 2147483648 := by omega
    have q1 : (V == 1) = false := by simp; omega
    have q2 : decide (V = 1) = false := decide_eq_false (by omega)
    have q3 : decide (V < 0) = false := decide_eq_false (by omega)
    have q4 : decide (0 < V) = true := decide_eq_true (by omega)
    have q5 : (V == 0) = false := by simp; omega
    have q6 : decide (V = 0) = false := decide_eq_false (by omega)
    refine ⟨_, (stepG_add_atomic rfl rfl (by k_ne) rfl H.f_addU64 (x_addU64_n L) (x_addU64_b L) (x_addU64_x L) .u64 (x_addU64_f L) rfl rfl hw.cellSt (hw.thaw 0)).trans (by rw [eS]; rfl), .inl ⟨300, ?_⟩⟩
    replace hF : F (w₂.setCell (stA Wg) (.int .u64 S)) ∧ WgLive L.tWg Wg (w₂.setCell (stA Wg) (.int .u64 S)) := ⟨hSt _ _ _ rfl hF.1, ⟨_, _, hw.setSt _⟩⟩
    clear hw hS hV eS
    walk_nrm
    iterate 87 (first
        | u_c stepG_region_end hRl hF
        | u_c stepG_seq hRl hF
        | u_reg hRl hF
        | u_skip hRl hF
        | u_cond true hRl hF
        | u_cond false hRl hF
        | u_c stepG_skip hRl hF
        | u_c stepG_block hRl hF
        | u_c stepG_loop hRl hF
        | u_c stepG_inBlock hRl hF
        | u_c stepG_inLoop hRl hF
        | u_c stepG_ret' hRl hF
        | u_leave1 H.f_uAdd hRl hF
        | u_leave1 H.f_uLoad hRl hF
        | u_leave1 H.f_uCas hRl hF
        | u_defer hRl hF
        | u_bub hRl hF
        | u_op hRl hF
        | u_cnd true hRl hF
        | u_cnd false hRl hF
        | u_call H.f_uAdd (nm_uAdd L) uAddFn hRl hF
        | u_call H.f_uLoad (nm_uLoad L) uLoadFn hRl hF
        | u_call H.f_uCas (nm_uCas L) uCasFn hRl hF
        | u_conv H.underlying_tPU32 H.room_tU32 (WgLive.cell1 hF.2).choose_spec hRl hF
        | u_conv H.underlying_tWgP H.room_tWg (WgLive.cell0 hF.2).choose_spec hRl hF)
    refine Goes.stop (fun w₃ h₁ => ?_)
    replace hF := hRl hF h₁
    clear h₁
    refine ⟨rfl, _, stepG_unwind_entry (v := .tuple #[]) (evs := #[mk .enable]) rfl H.f_enable (x_enable_n L) (x_enable_b L) (x_enable_x L) (x_enable_f L) (by simp [Extern.Race.none_]) (by simp [mk]) (by simp [mk]), mT + 3, ?_⟩
    u_leave0 H.f_add hRl hF
    exact goes_up (by omega) (hT _ hF)
end
end Go.Proofs.Ytgkakgibgfehaaa.Ph
