/-
  MADE BY PROGRAM (gen_phb.py): sync.WaitGroup's Wait, walked under such a rely.
-/
import Derived.Test.YtgkakgibgfehaaaSh15
import Derived.Conc.WgGenN3
namespace Go.Proofs.Ytgkakgibgfehaaa.Ph
open Go.Conc Go.ConcN Go.RowKit Go.Conc.Lib Go.ConcR.Gen Go.ConcN.Gen
open Go.ConcR (KK wgBlock WgAt stA smA rd wr mk Payload DC0)
section
variable {L : WgLink} {P : Program} {R : World → World → Prop} {Wg : Nat} {F : World → Prop}
  {b₀ : Frame} {a₀ : Act} {ops₀ : Array Oper} {i₀ : Nat} {rest₀ : List Nat} {k₀ : List Item} {cs : List Frame} {Next : Goroutine → World → Prop} {mT : Nat}

set_option maxRecDepth 100000 in
set_option maxHeartbeats 8000000 in
/-- FROM THE HEAD OF Wait's LOOP. -/
theorem wait_round (H : WgLib P L) (hRl : ∀ {w w₁ : World}, F w ∧ WgLive L.tWg Wg w → R w w₁ → F w₁ ∧ WgLive L.tWg Wg w₁) (hSt : ∀ (w : World) (a : Addr) (v : Value), a.block = Wg → F w → F (w.setCell a v)) (hT : ∀ w : World, F w ∧ WgLive L.tWg Wg w → Goes P true R DC0 Next mT (G (b₀.at (a₀.put ((ops₀[i₀]?).bind (·.dst)) (.tuple #[])) (.inRegion ops₀ rest₀ :: k₀)) cs) w) (g : Goroutine) (w : World)
    (h : Head L (fun w => F w ∧ WgLive L.tWg Wg w) Wg (b₀.at a₀ (.inRegion ops₀ (i₀ :: rest₀) :: k₀)) cs g w) :
    To P R (Wt2 P L.tWg Wg R Next (Head L (fun w => F w ∧ WgLive L.tWg Wg w) Wg (b₀.at a₀ (.inRegion ops₀ (i₀ :: rest₀) :: k₀)) cs)) g w := by
  lib_facts
  obtain ⟨T, rfl, hT84, t0, hF⟩ := h
  obtain ⟨v0, v1, v2, v3, v4, v5, v6, v7, v8, v9, v10, v11, v12, v13, v14, v15, v16, v17, v18, v19, v20, v21, v22, v23, v24, v25, v26, v27, v28, v29, v30, v31, v32, v33, v34, v35, v36, v37, v38, v39, v40, v41, v42, v43, v44, v45, v46, v47, v48, v49, v50, v51, v52, v53, v54, v55, v56, v57, v58, v59, v60, v61, v62, v63, v64, v65, v66, v67, v68, v69, v70, v71, v72, v73, v74, v75, v76, v77, v78, v79, v80, v81, v82, v83, rfl⟩ := array84 T hT84
  simp only [List.getElem?_toArray, List.getElem?_cons_zero, Option.some.injEq] at t0
  subst t0
  refine ⟨300, ?_⟩
  simp only [L7, body_wait, waitFn, Option.getD_some]
  iterate 16 (first
      | u_c stepG_region_end hRl hF
      | u_c stepG_seq hRl hF
      | u_reg hRl hF
      | u_skip hRl hF
      | u_cond true hRl hF
      | u_cond false hRl hF
      | u_c stepG_skip hRl hF
      | u_c stepG_block hRl hF
      | u_c stepG_loop hRl hF
      | u_c stepG_inBlock hRl hF
      | u_c stepG_inLoop hRl hF
      | u_c stepG_ret' hRl hF
      | u_leave1 H.f_uAdd hRl hF
      | u_leave1 H.f_uLoad hRl hF
      | u_leave1 H.f_uCas hRl hF
      | u_defer hRl hF
      | u_bub hRl hF
      | u_op hRl hF
      | u_cnd true hRl hF
      | u_cnd false hRl hF
      | u_call H.f_uAdd (nm_uAdd L) uAddFn hRl hF
      | u_call H.f_uLoad (nm_uLoad L) uLoadFn hRl hF
      | u_call H.f_uCas (nm_uCas L) uCasFn hRl hF
      | u_conv H.underlying_tPU32 H.room_tU32 (WgLive.cell1 hF.2).choose_spec hRl hF
      | u_conv H.underlying_tWgP H.room_tWg (WgLive.cell0 hF.2).choose_spec hRl hF)
  refine Goes.stop (fun w₁ h₁ => ?_)
  replace hF := hRl hF h₁
  clear h₁
  refine ⟨rfl, fun v hv hw => ?_⟩
  rcases Nat.eq_zero_or_pos v with rfl | hvp
  · replace hw : WgAt L.tWg Wg w₁ 0 0 := by simpa using hw
    refine ⟨_, stepG_load_atomic (v := 0) rfl rfl (by k_ne) rfl H.f_loadU64 (x_loadU64_n L) (x_loadU64_b L) (x_loadU64_x L) .u64 (x_loadU64_f L) rfl hw.cellSt, fun _ => ⟨300, ?_⟩, fun h => absurd rfl h⟩
    clear hw
    walk_nrm
    iterate 31 (first
        | u_c stepG_region_end hRl hF
        | u_c stepG_seq hRl hF
        | u_reg hRl hF
        | u_skip hRl hF
        | u_cond true hRl hF
        | u_cond false hRl hF
        | u_c stepG_skip hRl hF
        | u_c stepG_block hRl hF
        | u_c stepG_loop hRl hF
        | u_c stepG_inBlock hRl hF
        | u_c stepG_inLoop hRl hF
        | u_c stepG_ret' hRl hF
        | u_leave1 H.f_uAdd hRl hF
        | u_leave1 H.f_uLoad hRl hF
        | u_leave1 H.f_uCas hRl hF
        | u_defer hRl hF
        | u_bub hRl hF
        | u_op hRl hF
        | u_cnd true hRl hF
        | u_cnd false hRl hF
        | u_call H.f_uAdd (nm_uAdd L) uAddFn hRl hF
        | u_call H.f_uLoad (nm_uLoad L) uLoadFn hRl hF
        | u_call H.f_uCas (nm_uCas L) uCasFn hRl hF
        | u_conv H.underlying_tPU32 H.room_tU32 (WgLive.cell1 hF.2).choose_spec hRl hF
        | u_conv H.underlying_tWgP H.room_tWg (WgLive.cell0 hF.2).choose_spec hRl hF)
    refine Goes.stop (fun w₅ h₁ => ?_)
    replace hF := hRl hF h₁
    clear h₁
    refine ⟨rfl, _, stepG_mark0 .enable (by simp) rfl rfl (by k_ne) rfl H.f_enable (x_enable_n L) (x_enable_b L) (x_enable_x L) (x_enable_f L), 300, ?_⟩
    walk_nrm
    iterate 4 (first
        | u_c stepG_region_end hRl hF
        | u_c stepG_seq hRl hF
        | u_reg hRl hF
        | u_skip hRl hF
        | u_cond true hRl hF
        | u_cond false hRl hF
        | u_c stepG_skip hRl hF
        | u_c stepG_block hRl hF
        | u_c stepG_loop hRl hF
        | u_c stepG_inBlock hRl hF
        | u_c stepG_inLoop hRl hF
        | u_c stepG_ret' hRl hF
        | u_leave1 H.f_uAdd hRl hF
        | u_leave1 H.f_uLoad hRl hF
        | u_leave1 H.f_uCas hRl hF
        | u_defer hRl hF
        | u_bub hRl hF
        | u_op hRl hF
        | u_cnd true hRl hF
        | u_cnd false hRl hF
        | u_call H.f_uAdd (nm_uAdd L) uAddFn hRl hF
        | u_call H.f_uLoad (nm_uLoad L) uLoadFn hRl hF
        | u_call H.f_uCas (nm_uCas L) uCasFn hRl hF
        | u_conv H.underlying_tPU32 H.room_tU32 (WgLive.cell1 hF.2).choose_spec hRl hF
        | u_conv H.underlying_tWgP H.room_tWg (WgLive.cell0 hF.2).choose_spec hRl hF)
    refine Goes.stop (fun w₆ h₁ => ?_)
    replace hF := hRl hF h₁
    clear h₁
    refine ⟨rfl, _, stepG_markAt .acquire (by simp) rfl rfl (by k_ne) rfl H.f_acquire (x_acquire_n L) (x_acquire_b L) (x_acquire_x L) (x_acquire_f L) (by simp [Act.eval, stA]), mT + 300, ?_⟩
    walk_nrm
    iterate 19 (first
        | u_c stepG_region_end hRl hF
        | u_c stepG_seq hRl hF
        | u_reg hRl hF
        | u_skip hRl hF
        | u_cond true hRl hF
        | u_cond false hRl hF
        | u_c stepG_skip hRl hF
        | u_c stepG_block hRl hF
        | u_c stepG_loop hRl hF
        | u_c stepG_inBlock hRl hF
        | u_c stepG_inLoop hRl hF
        | u_c stepG_ret' hRl hF
        | u_leave1 H.f_uAdd hRl hF
        | u_leave1 H.f_uLoad hRl hF
        | u_leave1 H.f_uCas hRl hF
        | u_defer hRl hF
        | u_bub hRl hF
        | u_op hRl hF
        | u_cnd true hRl hF
        | u_cnd false hRl hF
        | u_call H.f_uAdd (nm_uAdd L) uAddFn hRl hF
        | u_call H.f_uLoad (nm_uLoad L) uLoadFn hRl hF
        | u_call H.f_uCas (nm_uCas L) uCasFn hRl hF
        | u_conv H.underlying_tPU32 H.room_tU32 (WgLive.cell1 hF.2).choose_spec hRl hF
        | u_conv H.underlying_tWgP H.room_tWg (WgLive.cell0 hF.2).choose_spec hRl hF)
    u_leave0 H.f_wait hRl hF
    exact goes_up (by omega) (hT _ hF)
  · obtain ⟨S, hS⟩ : ∃ S : Int, (v : Int) * KK = S := ⟨_, rfl⟩
    have a1 : S / 4294967296 = (v : Int) := by rw [← hS]; simp only [KK]; omega
    have b1 : bits .and .u64 S 2147483648 = 0 := by rw [← hS]; have := st_flag v 0 (by omega) (by omega); simpa [KK] using this
    have b2 : bits .and .u64 S 2147483647 = 0 := by rw [← hS]; have := st_waiters v 0 (by omega) (by omega); simpa [KK] using this
    have c1 : IntKind.i32.wrap (v : Int) = (v : Int) := by rw [IntKind.wrap_i32]; omega
    have w1 : IntKind.u64.wrap (S + 1) = S + 1 := by rw [IntKind.wrap_u64, ← hS]; simp only [KK]; omega
    have q3 : decide ((v : Int) < 0) = false := decide_eq_false (by omega)
    have q4 : decide (0 < (v : Int)) = true := decide_eq_true (by omega)
    have q5 : ((v : Int) == 0) = false := by simp; omega
    have q6 : decide ((v : Int) = 0) = false := decide_eq_false (by omega)
    rw [hS] at hw
    refine ⟨_, stepG_load_atomic (v := S) rfl rfl (by k_ne) rfl H.f_loadU64 (x_loadU64_n L) (x_loadU64_b L) (x_loadU64_x L) .u64 (x_loadU64_f L) rfl hw.cellSt, fun h0 => absurd h0 (by omega), fun _ => ⟨300, ?_⟩⟩
    clear hw
    walk_nrm
    iterate 48 (first
        | u_c stepG_region_end hRl hF
        | u_c stepG_seq hRl hF
        | u_reg hRl hF
        | u_skip hRl hF
        | u_cond true hRl hF
        | u_cond false hRl hF
        | u_c stepG_skip hRl hF
        | u_c stepG_block hRl hF
        | u_c stepG_loop hRl hF
        | u_c stepG_inBlock hRl hF
        | u_c stepG_inLoop hRl hF
        | u_c stepG_ret' hRl hF
        | u_leave1 H.f_uAdd hRl hF
        | u_leave1 H.f_uLoad hRl hF
        | u_leave1 H.f_uCas hRl hF
        | u_defer hRl hF
        | u_bub hRl hF
        | u_op hRl hF
        | u_cnd true hRl hF
        | u_cnd false hRl hF
        | u_call H.f_uAdd (nm_uAdd L) uAddFn hRl hF
        | u_call H.f_uLoad (nm_uLoad L) uLoadFn hRl hF
        | u_call H.f_uCas (nm_uCas L) uCasFn hRl hF
        | u_conv H.underlying_tPU32 H.room_tU32 (WgLive.cell1 hF.2).choose_spec hRl hF
        | u_conv H.underlying_tWgP H.room_tWg (WgLive.cell0 hF.2).choose_spec hRl hF)
    refine Goes.stop (fun w₂ h₁ => ?_)
    replace hF := hRl hF h₁
    clear h₁
    refine ⟨rfl, fun v' hv' hw => ⟨fun e => ?_, fun e => ?_⟩⟩
    · subst e
      rw [hS] at hw ⊢
      refine ⟨_, (stepG_cas_hit (v := S) (n := S + 1) rfl rfl (by k_ne) rfl H.f_casU64 (x_casU64_n L) (x_casU64_b L) (x_casU64_x L) .u64 (x_casU64_f L) rfl rfl rfl hw.cellSt (hw.thaw 0)).trans (by rfl), 300, ?_⟩
      replace hF : F (w₂.setCell (stA Wg) (.int .u64 (S + 1))) ∧ WgLive L.tWg Wg (w₂.setCell (stA Wg) (.int .u64 (S + 1))) := ⟨hSt _ _ _ rfl hF.1, ⟨_, _, hw.setSt _⟩⟩
      clear hw
      walk_nrm
      iterate 20 (first
          | u_c stepG_region_end hRl hF
          | u_c stepG_seq hRl hF
          | u_reg hRl hF
          | u_skip hRl hF
          | u_cond true hRl hF
          | u_cond false hRl hF
          | u_c stepG_skip hRl hF
          | u_c stepG_block hRl hF
          | u_c stepG_loop hRl hF
          | u_c stepG_inBlock hRl hF
          | u_c stepG_inLoop hRl hF
          | u_c stepG_ret' hRl hF
          | u_leave1 H.f_uAdd hRl hF
          | u_leave1 H.f_uLoad hRl hF
          | u_leave1 H.f_uCas hRl hF
          | u_defer hRl hF
          | u_bub hRl hF
          | u_op hRl hF
          | u_cnd true hRl hF
          | u_cnd false hRl hF
          | u_call H.f_uAdd (nm_uAdd L) uAddFn hRl hF
          | u_call H.f_uLoad (nm_uLoad L) uLoadFn hRl hF
          | u_call H.f_uCas (nm_uCas L) uCasFn hRl hF
          | u_conv H.underlying_tPU32 H.room_tU32 (WgLive.cell1 hF.2).choose_spec hRl hF
          | u_conv H.underlying_tWgP H.room_tWg (WgLive.cell0 hF.2).choose_spec hRl hF)
      refine Goes.stop (fun w₈ h₈ => ?_)
      replace hF := hRl hF h₈
      clear h₈
      refine ⟨rfl, _, ⟨Wg, 1, none⟩, rfl, stepG_markAt .write (by simp) rfl rfl (by k_ne) rfl H.f_raceWrite (x_raceWrite_n L) (x_raceWrite_b L) (x_raceWrite_x L) (x_raceWrite_f L) (ad := ⟨Wg, 1, none⟩) (by simp [Act.eval] <;> rfl), 300, ?_⟩
      walk_nrm
      iterate 23 (first
          | u_c stepG_region_end hRl hF
          | u_c stepG_seq hRl hF
          | u_reg hRl hF
          | u_skip hRl hF
          | u_cond true hRl hF
          | u_cond false hRl hF
          | u_c stepG_skip hRl hF
          | u_c stepG_block hRl hF
          | u_c stepG_loop hRl hF
          | u_c stepG_inBlock hRl hF
          | u_c stepG_inLoop hRl hF
          | u_c stepG_ret' hRl hF
          | u_leave1 H.f_uAdd hRl hF
          | u_leave1 H.f_uLoad hRl hF
          | u_leave1 H.f_uCas hRl hF
          | u_defer hRl hF
          | u_bub hRl hF
          | u_op hRl hF
          | u_cnd true hRl hF
          | u_cnd false hRl hF
          | u_call H.f_uAdd (nm_uAdd L) uAddFn hRl hF
          | u_call H.f_uLoad (nm_uLoad L) uLoadFn hRl hF
          | u_call H.f_uCas (nm_uCas L) uCasFn hRl hF
          | u_conv H.underlying_tPU32 H.room_tU32 (WgLive.cell1 hF.2).choose_spec hRl hF
          | u_conv H.underlying_tWgP H.room_tWg (WgLive.cell0 hF.2).choose_spec hRl hF)
      refine Goes.stop (fun w₃ h₁ => ?_)
      replace hF := hRl hF h₁
      clear h₁
      refine ⟨rfl, rfl, fun ⟨st, hw⟩ => stepG_semacquire_wait rfl rfl rfl H.f_semacquire (x_semacquire_n L) (x_semacquire_b L) (x_semacquire_x L) (x_semacquire_f L) (by simp [Act.eval, smA]) hw.cellSm, fun hf => ?_⟩
      refine ⟨_, (stepG_semacquire (n := 1) rfl rfl (by k_ne) rfl H.f_semacquire (x_semacquire_n L) (x_semacquire_b L) (x_semacquire_x L) (x_semacquire_f L) (by simp [Act.eval, smA]) hf.cellSm (by k_ne) (hf.thaw 1)).trans (by rfl), 300, ?_⟩
      replace hF : F (w₃.setCell (smA Wg) (.int .u32 0)) ∧ WgLive L.tWg Wg (w₃.setCell (smA Wg) (.int .u32 0)) := ⟨hSt _ _ _ rfl hF.1, ⟨_, _, hf.setSm 0⟩⟩
      clear hf
      walk_nrm
      iterate 16 (first
          | u_c stepG_region_end hRl hF
          | u_c stepG_seq hRl hF
          | u_reg hRl hF
          | u_skip hRl hF
          | u_cond true hRl hF
          | u_cond false hRl hF
          | u_c stepG_skip hRl hF
          | u_c stepG_block hRl hF
          | u_c stepG_loop hRl hF
          | u_c stepG_inBlock hRl hF
          | u_c stepG_inLoop hRl hF
          | u_c stepG_ret' hRl hF
          | u_leave1 H.f_uAdd hRl hF
          | u_leave1 H.f_uLoad hRl hF
          | u_leave1 H.f_uCas hRl hF
          | u_defer hRl hF
          | u_bub hRl hF
          | u_op hRl hF
          | u_cnd true hRl hF
          | u_cnd false hRl hF
          | u_call H.f_uAdd (nm_uAdd L) uAddFn hRl hF
          | u_call H.f_uLoad (nm_uLoad L) uLoadFn hRl hF
          | u_call H.f_uCas (nm_uCas L) uCasFn hRl hF
          | u_conv H.underlying_tPU32 H.room_tU32 (WgLive.cell1 hF.2).choose_spec hRl hF
          | u_conv H.underlying_tWgP H.room_tWg (WgLive.cell0 hF.2).choose_spec hRl hF)
      refine Goes.stop (fun w₄ h₁ => ?_)
      replace hF := hRl hF h₁
      clear h₁
      refine ⟨rfl, fun hw => ⟨_, stepG_load_atomic (v := 0) rfl rfl (by k_ne) rfl H.f_loadU64 (x_loadU64_n L) (x_loadU64_b L) (x_loadU64_x L) .u64 (x_loadU64_f L) rfl hw.cellSt, 300, ?_⟩⟩
      clear hw
      walk_nrm
      iterate 11 (first
          | u_c stepG_region_end hRl hF
          | u_c stepG_seq hRl hF
          | u_reg hRl hF
          | u_skip hRl hF
          | u_cond true hRl hF
          | u_cond false hRl hF
          | u_c stepG_skip hRl hF
          | u_c stepG_block hRl hF
          | u_c stepG_loop hRl hF
          | u_c stepG_inBlock hRl hF
          | u_c stepG_inLoop hRl hF
          | u_c stepG_ret' hRl hF
          | u_leave1 H.f_uAdd hRl hF
          | u_leave1 H.f_uLoad hRl hF
          | u_leave1 H.f_uCas hRl hF
          | u_defer hRl hF
          | u_bub hRl hF
          | u_op hRl hF
          | u_cnd true hRl hF
          | u_cnd false hRl hF
          | u_call H.f_uAdd (nm_uAdd L) uAddFn hRl hF
          | u_call H.f_uLoad (nm_uLoad L) uLoadFn hRl hF
          | u_call H.f_uCas (nm_uCas L) uCasFn hRl hF
          | u_conv H.underlying_tPU32 H.room_tU32 (WgLive.cell1 hF.2).choose_spec hRl hF
          | u_conv H.underlying_tWgP H.room_tWg (WgLive.cell0 hF.2).choose_spec hRl hF)
      refine Goes.stop (fun w₅ h₁ => ?_)
      replace hF := hRl hF h₁
      clear h₁
      refine ⟨rfl, _, stepG_mark0 .enable (by simp) rfl rfl (by k_ne) rfl H.f_enable (x_enable_n L) (x_enable_b L) (x_enable_x L) (x_enable_f L), 300, ?_⟩
      walk_nrm
      iterate 4 (first
          | u_c stepG_region_end hRl hF
          | u_c stepG_seq hRl hF
          | u_reg hRl hF
          | u_skip hRl hF
          | u_cond true hRl hF
          | u_cond false hRl hF
          | u_c stepG_skip hRl hF
          | u_c stepG_block hRl hF
          | u_c stepG_loop hRl hF
          | u_c stepG_inBlock hRl hF
          | u_c stepG_inLoop hRl hF
          | u_c stepG_ret' hRl hF
          | u_leave1 H.f_uAdd hRl hF
          | u_leave1 H.f_uLoad hRl hF
          | u_leave1 H.f_uCas hRl hF
          | u_defer hRl hF
          | u_bub hRl hF
          | u_op hRl hF
          | u_cnd true hRl hF
          | u_cnd false hRl hF
          | u_call H.f_uAdd (nm_uAdd L) uAddFn hRl hF
          | u_call H.f_uLoad (nm_uLoad L) uLoadFn hRl hF
          | u_call H.f_uCas (nm_uCas L) uCasFn hRl hF
          | u_conv H.underlying_tPU32 H.room_tU32 (WgLive.cell1 hF.2).choose_spec hRl hF
          | u_conv H.underlying_tWgP H.room_tWg (WgLive.cell0 hF.2).choose_spec hRl hF)
      refine Goes.stop (fun w₆ h₁ => ?_)
      replace hF := hRl hF h₁
      clear h₁
      refine ⟨rfl, _, stepG_markAt .acquire (by simp) rfl rfl (by k_ne) rfl H.f_acquire (x_acquire_n L) (x_acquire_b L) (x_acquire_x L) (x_acquire_f L) (by simp [Act.eval, stA]), mT + 300, ?_⟩
      walk_nrm
      iterate 9 (first
          | u_c stepG_region_end hRl hF
          | u_c stepG_seq hRl hF
          | u_reg hRl hF
          | u_skip hRl hF
          | u_cond true hRl hF
          | u_cond false hRl hF
          | u_c stepG_skip hRl hF
          | u_c stepG_block hRl hF
          | u_c stepG_loop hRl hF
          | u_c stepG_inBlock hRl hF
          | u_c stepG_inLoop hRl hF
          | u_c stepG_ret' hRl hF
          | u_leave1 H.f_uAdd hRl hF
          | u_leave1 H.f_uLoad hRl hF
          | u_leave1 H.f_uCas hRl hF
          | u_defer hRl hF
          | u_bub hRl hF
          | u_op hRl hF
          | u_cnd true hRl hF
          | u_cnd false hRl hF
          | u_call H.f_uAdd (nm_uAdd L) uAddFn hRl hF
          | u_call H.f_uLoad (nm_uLoad L) uLoadFn hRl hF
          | u_call H.f_uCas (nm_uCas L) uCasFn hRl hF
          | u_conv H.underlying_tPU32 H.room_tU32 (WgLive.cell1 hF.2).choose_spec hRl hF
          | u_conv H.underlying_tWgP H.room_tWg (WgLive.cell0 hF.2).choose_spec hRl hF)
      u_leave0 H.f_wait hRl hF
      exact goes_up (by omega) (hT _ hF)
    · refine ⟨_, stepG_cas_miss (v := (v' : Int) * KK) (old := S) (n := S + 1) rfl rfl (by k_ne) rfl H.f_casU64 (x_casU64_n L) (x_casU64_b L) (x_casU64_x L) .u64 (x_casU64_f L) rfl rfl rfl hw.cellSt (hw.thaw 0) (by rw [← hS]; simp only [KK]; omega), 300, ?_⟩
      clear hw
      walk_nrm
      iterate 9 (first
          | u_c stepG_region_end hRl hF
          | u_c stepG_seq hRl hF
          | u_reg hRl hF
          | u_skip hRl hF
          | u_cond true hRl hF
          | u_cond false hRl hF
          | u_c stepG_skip hRl hF
          | u_c stepG_block hRl hF
          | u_c stepG_loop hRl hF
          | u_c stepG_inBlock hRl hF
          | u_c stepG_inLoop hRl hF
          | u_c stepG_ret' hRl hF
          | u_leave1 H.f_uAdd hRl hF
          | u_leave1 H.f_uLoad hRl hF
          | u_leave1 H.f_uCas hRl hF
          | u_defer hRl hF
          | u_bub hRl hF
          | u_op hRl hF
          | u_cnd true hRl hF
          | u_cnd false hRl hF
          | u_call H.f_uAdd (nm_uAdd L) uAddFn hRl hF
          | u_call H.f_uLoad (nm_uLoad L) uLoadFn hRl hF
          | u_call H.f_uCas (nm_uCas L) uCasFn hRl hF
          | u_conv H.underlying_tPU32 H.room_tU32 (WgLive.cell1 hF.2).choose_spec hRl hF
          | u_conv H.underlying_tWgP H.room_tWg (WgLive.cell0 hF.2).choose_spec hRl hF)
      refine Goes.stop (fun w₃ h₃ => ?_)
      replace hF := hRl hF h₃
      exact ⟨_, rfl, by simp, by simp, hF⟩
set_option maxRecDepth 100000 in
/-- INTO Wait, TO THE HEAD OF ITS LOOP. -/
theorem wait_start (H : WgLib P L) (hRl : ∀ {w w₁ : World}, F w ∧ WgLive L.tWg Wg w → R w w₁ → F w₁ ∧ WgLive L.tWg Wg w₁) (w : World) (hF : F w ∧ WgLive L.tWg Wg w) :
    Goes P true R DC0 (Wt1 P R (Head L (fun w => F w ∧ WgLive L.tWg Wg w) Wg (b₀.at a₀ (.inRegion ops₀ (i₀ :: rest₀) :: k₀)) cs)) 100
      (G ((base L.wait).at ⟨#[.pointer (some ⟨Wg, 0, none⟩), undef, undef, undef, undef, undef, undef, undef, undef, undef, undef, undef, undef, undef, undef, undef, undef, undef, undef, undef, undef, undef, undef, undef, undef, undef, undef, undef, undef, undef, undef, undef, undef, undef, undef, undef, undef, undef, undef, undef, undef, undef, undef, undef, undef, undef, undef, undef, undef, undef, undef, undef, undef, undef, undef, undef, undef, undef, undef, undef, undef, undef, undef, undef, undef, undef, undef, undef, undef, undef, undef, undef, undef, undef, undef, undef, undef, undef, undef, undef, undef, undef, undef, undef], []⟩ [.code (body_wait L)]) (b₀.at a₀ (.inRegion ops₀ (i₀ :: rest₀) :: k₀) :: cs)) w := by
  lib_facts
  simp only [body_wait, waitFn, Option.getD_some]
  iterate 3 (first
      | u_c stepG_region_end hRl hF
      | u_c stepG_seq hRl hF
      | u_reg hRl hF
      | u_skip hRl hF
      | u_cond true hRl hF
      | u_cond false hRl hF
      | u_c stepG_skip hRl hF
      | u_c stepG_block hRl hF
      | u_c stepG_loop hRl hF
      | u_c stepG_inBlock hRl hF
      | u_c stepG_inLoop hRl hF
      | u_c stepG_ret' hRl hF
      | u_leave1 H.f_uAdd hRl hF
      | u_leave1 H.f_uLoad hRl hF
      | u_leave1 H.f_uCas hRl hF
      | u_defer hRl hF
      | u_bub hRl hF
      | u_op hRl hF
      | u_cnd true hRl hF
      | u_cnd false hRl hF
      | u_call H.f_uAdd (nm_uAdd L) uAddFn hRl hF
      | u_call H.f_uLoad (nm_uLoad L) uLoadFn hRl hF
      | u_call H.f_uCas (nm_uCas L) uCasFn hRl hF
      | u_conv H.underlying_tPU32 H.room_tU32 (WgLive.cell1 hF.2).choose_spec hRl hF
      | u_conv H.underlying_tWgP H.room_tWg (WgLive.cell0 hF.2).choose_spec hRl hF)
  refine Goes.stop (fun w₁ h₁ => ?_)
  replace hF := hRl hF h₁
  clear h₁
  refine ⟨rfl, _, stepG_mark0 .disable (by simp) rfl rfl (by k_ne) rfl H.f_disable (x_disable_n L) (x_disable_b L) (x_disable_x L) (x_disable_f L), 100, ?_⟩
  walk_nrm
  iterate 2 (first
      | u_c stepG_region_end hRl hF
      | u_c stepG_seq hRl hF
      | u_reg hRl hF
      | u_skip hRl hF
      | u_cond true hRl hF
      | u_cond false hRl hF
      | u_c stepG_skip hRl hF
      | u_c stepG_block hRl hF
      | u_c stepG_loop hRl hF
      | u_c stepG_inBlock hRl hF
      | u_c stepG_inLoop hRl hF
      | u_c stepG_ret' hRl hF
      | u_leave1 H.f_uAdd hRl hF
      | u_leave1 H.f_uLoad hRl hF
      | u_leave1 H.f_uCas hRl hF
      | u_defer hRl hF
      | u_bub hRl hF
      | u_op hRl hF
      | u_cnd true hRl hF
      | u_cnd false hRl hF
      | u_call H.f_uAdd (nm_uAdd L) uAddFn hRl hF
      | u_call H.f_uLoad (nm_uLoad L) uLoadFn hRl hF
      | u_call H.f_uCas (nm_uCas L) uCasFn hRl hF
      | u_conv H.underlying_tPU32 H.room_tU32 (WgLive.cell1 hF.2).choose_spec hRl hF
      | u_conv H.underlying_tWgP H.room_tWg (WgLive.cell0 hF.2).choose_spec hRl hF)
  u_c stepG_loop hRl hF
  exact Goes.stop (fun w₂ h₂ => ⟨_, rfl, by simp, by simp, hRl hF h₂⟩)
end
end Go.Proofs.Ytgkakgibgfehaaa.Ph
