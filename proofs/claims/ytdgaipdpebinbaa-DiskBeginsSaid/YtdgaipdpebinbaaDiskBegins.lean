/- Behind a fall each file that is there has a beginning of what a file had that had that name at some time: DiskBegins, of all deeds, and what is kept. No condition. -/
import Derived.Test.YtdgaipdpebinbaaDkBg
import Derived.Test.YtdgaipdpebinbaaDkPn
import Derived.Test.YtdgaipdpebinbaaDkArg
import Derived.Maps.AppendAt
set_option linter.unusedVariables false
set_option linter.unusedSimpArgs false
namespace Go.Proofs.Ytdgaipdpebinbaa
open Go.RowKit Go.Maps Go.Shelf Go.Sort Go.ChangeShapes Go.WideShapes Go.ChangeAt

theorem cut_to2 (A : Option Addr) (n c k : Nat) (hk : k ≤ n) (hnc : n ≤ c) (W : World) : (Instr.slice 30 (.slice A n c) none (some (.int .i64 (k : Int))) none).run Try.prog W = .ok (.slice A k c) W := by
  obtain ⟨i, hi, _, hs1, _⟩ := info_parts info_u8
  have he : Try.prog.elem 30 = 5 := by kernel_rfl
  rw [run_slice_h W 30 A n c (by rw [he]; exact Try.underlying30) .i64 k (by omega) (by omega)]
  simp [sizeOf, typeInfo, he, hi, hs1, sliced, Result.andThen]
  intro _
  cases A <;> simp [Addr.add]
set_option maxHeartbeats 8000000 in
set_option maxRecDepth 40000 in
theorem begins_walk (w : World) (A : Option Addr) (n c : Nat) (D : List MD) (Ak : Option Addr) (mk ck : Nat) (keep : List Int)
    (hl : D.length = n) (hnc : n ≤ c) (hr : RdD w A D) (hD : ∀ x ∈ D, x.Ok w) (hkl : keep.length = mk) (hkr : RdI w Ak keep) (h64 : In64 keep) (hc : c ≤ 140737488351232) :
    Calls Try.prog 3 #[.slice A n c, .slice Ak mk ck] w (Yes w) := by
  have hnew : ∀ w, _ := fun w => new_any w 1048576 (by omega)
  obtain ⟨i0, hi, hz0, hz1, hz2⟩ := info_parts info_bs
  have HD := Lib.hid hD
  have HL := Lib.hid hl
  have HKL := Lib.hid hkl
  have H64 := Lib.hid h64
  clear hD hl hkl h64
  go_enter Try.func3, Try.ntmps3
  go_wp2_with fail
  refine (hnew w).mono ?_
  rintro e w1 ⟨own0, d, rfl, hd0, hf0, hb0⟩
  clear hnew
  have hL0 : Lies w w1 own0 d (dsE (newE 1048576) ((D.take 0).map ddN)) := ⟨hd0, hf0, hb0⟩
  clear hd0 hf0 hb0
  go_wp2_with fail
  have hFw : w.heap.size ≤ w1.heap.size := hL0.below.size
  have hP0 : Hd (w1.alloc (.cells #[.slice none 0 0, .slice none 0 0, .slice none 0 0] 29)) own0 w1.heap.size w.heap.size (fun _ => .slice none 0 0) (fun _ => []) (fun _ => []) :=
    ⟨heap_alloc_new w1 _, own_new hL0.disk (Nat.le_refl _), fun k hk => ⟨World.ownsRow_nil _ _ _ _, fun c hc => by simp [Value.ownBlock] at hc, fun q hq => by simp at hq⟩, fun j k c _ _ _ hc => by simp [Value.ownBlock] at hc⟩
  have hL1 := hL0.on ((Below.refl _ w1).alloc (Nat.le_refl _) (.cells #[.slice none 0 0, .slice none 0 0, .slice none 0 0] 29))
  clear hL0
  go_loopw [8] (fun i wr => ∃ j : Nat, j ≤ 40 ∧ i = .int .i64 (j : Int) ∧ ∃ own vs xs hs, Lies w wr own d (dsE (newE 1048576) ((D.take j).map ddN)) ∧ Had (dsE (newE 1048576) ((D.take j).map ddN)) (allE hs) ∧ Hd wr own w1.heap.size w.heap.size vs xs hs ∧ ∀ k, k < 3 → (hs k).length ≤ j) (fun i _ => 40 - (intOf i).toNat)
  case atStart => exact ⟨0, by omega, rfl, own0, _, _, _, hL1, had_new _ _, hP0, fun k hk => by simp⟩
  case round =>
    clear hL1 hP0
    obtain ⟨j, hj, rfl, own, vs, xs, hs, hLj, hHad, hHd, hfew⟩ := hrel
    by_cases hgo : j < n ∧ j < 40
    · obtain ⟨hlt, h60⟩ := hgo
      have hjl : j < D.length := by have := HL.out; omega
      have hx := HD.out _ (List.getElem_mem hjl)
      obtain ⟨ad, rfl, q0, q1, q2, q3, q4, q5, q6⟩ := (hr.below hLj.below).load hjl
      have hne := near_md D[j] wr hx
      have hrun := run_near 1048576 D j
      have hdo := Lib.hid (fun w' own' (h : Lies w w' own' d (dsE (newE 1048576) ((D.take j).map ddN))) => does_near h hrun (by omega) (by omega) (by omega) D[j] hx)
      have hnx := Lib.hid (near_next 1048576 hjl)
      have hRun5 := run_near 1048576 D (j + 1)
      have hok5 := hRun5.inv.now
      have hlive5 := hRun5.live
      have hfit5 : Fit (dsE (newE 1048576) ((D.take (j + 1)).map ddN)).files := by
        have := hRun5.bnd.data
        unfold Fit
        omega
      have hstep : ∀ hs', Seen (dE (dsE (newE 1048576) ((D.take j).map ddN)) (nearM D[j]).dd).1 hs hs' 3 → Had (dE (dsE (newE 1048576) ((D.take j).map ddN)) (nearM D[j]).dd).1 (allE hs') := fun hs' h =>
        had_step hrun.inv hHad (nearM D[j]).dd (g := D[j].G.size % 3) (Nat.mod_lt _ (by omega)) rfl h
      rw [hnx.out] at hstep
      have HST := Lib.hid hstep
      unfold MD.val deedV at hne
      clear hstep hRun5 hrun hHad
      go_wp2_with fail
      refine hne.mono ?_
      rintro e w2 ⟨rfl, hb2⟩
      have hL2 := hLj.on hb2
      have hP2 := hHd.kept (Kept.of_below hb2 own)
      clear q0 q1 q2 q3 q4 q5 q6 hne hHd
      go_wp2_with fail
      refine (hdo.out _ _ hL2).mono ?_
      intro e w3 hgot
      rw [hnx.out] at hgot
      obtain ⟨rfl, own3, hL3, hK3⟩ := lies_got hL2 hgot
      have hP3 := hP2.kept hK3
      clear hgot hdo hnx hLj hL2 hP2 hK3
      generalize hgs : dsE (newE 1048576) ((D.take (j + 1)).map ddN) = s at *
      have HS := Lib.hid hgs
      clear hgs
      go_wp2_with fail
      go_loopw [9] (fun i wx => ∃ k : Nat, k ≤ 3 ∧ i = .int .i64 (k : Int) ∧ ∃ vs' xs' hs', Lies w wx own3 d s ∧ Hd wx own3 w1.heap.size w.heap.size vs' xs' hs' ∧ Seen s hs hs' k) (fun i _ => 3 - (intOf i).toNat)
      case atStart => exact ⟨0, by omega, rfl, vs, xs, hs, hL3, hP3, seen_start s hs⟩
      case round =>
        clear hL3 hP3
        obtain ⟨k, hk, rfl, vs', xs', hs', Lx, Px, Sx⟩ := hrel
        have hkk : k = 0 ∨ k = 1 ∨ k = 2 ∨ k = 3 := by omega
        rcases hkk with rfl | rfl | rfl | rfl
        · have hcv := fun W : World => name_of W 97 97 rfl
          have Ly := Lx.on ((Below.refl _ _).alloc (Nat.le_refl _) (.cells #[.int .u8 97] 5))
          cases ho : rdE s (nm 0) with
          | none =>
            have hrdc := Lib.hid (lies_read Ly hok5 hfit5 hlive5 ⟨#[97]⟩ (by unfold maxLen; decide) none ho)
            have S2 := Lib.hid (seen_none Sx ho)
            clear ho Sx
            go_wp2_with fail
            refine hrdc.out.mono ?_
            rintro e w6 ⟨v6, rfl, hov6, hb6⟩
            obtain ⟨A6, n6, c6, rfl, hl6, hnc6, hcm6, hr6⟩ := hov6.form
            have hbk6 := bl_trans ((Below.refl _ wr).alloc (Nat.le_refl _) (.cells #[.int .u8 97] 5)) hb6
            have L6 := Lx.on hbk6
            have P6 := Px.quiet hbk6
            clear hov6 hrdc Ly Lx Px
            go_wp2_with fail
            exact ⟨⟨1, by omega, by go_num, vs', xs', hs', L6, P6, S2.out⟩, by simp [intOf]⟩
          | some b =>
            have hrdc := Lib.hid (lies_read Ly hok5 hfit5 hlive5 ⟨#[97]⟩ (by unfold maxLen; decide) (some b) ho)
            have S2 := Lib.hid (seen_some (by omega) Sx ho)
            have hfk : (hs' 0).length ≤ 40 := by
              have := Sx.few 0 (by omega)
              have := hfew 0 (by omega)
              omega
            clear ho Sx
            go_wp2_with fail
            refine hrdc.out.mono ?_
            rintro e w6 ⟨v6, rfl, hov6, hb6⟩
            have hbk6 := bl_trans ((Below.refl _ wr).alloc (Nat.le_refl _) (.cells #[.int .u8 97] 5)) hb6
            have L6 := Lx.on hbk6
            have P6 := Px.quiet hbk6
            have hisb := isB_own Ly.disk hov6
            obtain ⟨A6, c6, rfl, g1, g2, g3⟩ := hov6.shape
            have hbx : Below w6.heap.size w6 (w6.alloc (.cells #[.slice A6 b.length c6] 30)) := (Below.refl _ w6).alloc (Nat.le_refl _) _
            have LX := L6.on hbx
            have PX := P6.quiet hbx
            have IX := isB_quiet hisb hbx
            have hnewX : own3 (w6.alloc (.cells #[.slice A6 b.length c6] 30)).heap.size = none := own_new LX.disk (Nat.le_refl _)
            obtain ⟨r1, r2, r3⟩ := PX.val 0 (by omega)
            obtain ⟨Ar, cr, hvr⟩ := row_form r1
            have y0 := P6.cellF (a := 0) (by omega)
            have hszw : w.heap.size ≤ w6.heap.size := L6.below.size
            have HR1 := Lib.hid r1
            have HR2 := Lib.hid r2
            have HPX := Lib.hid PX
            have HLX := Lib.hid LX
            have HIX := Lib.hid IX
            have HVR := Lib.hid hvr
            clear hov6 hrdc Ly Lx Px r1 r2 r3 PX LX IX hisb P6 L6 hvr
            go_wp2_with (at_builtin; refine wpList_append_own_at _ rfl _ _ 28 rfl w.heap.size 30 i0 (.slice none 0 0) 1 24 Try.underlying28 hi hz0 hz1 hz2 rfl (by decide) (vs' 0) (hs' 0).length _ rfl HR1.out ⟨w6.heap.size, 0, none⟩ 1 1 [.slice A6 b.length c6] rfl rfl (one_cellS _ _ _) (by simp [Value.oneCell']) (by simp only [maxLen]; omega) (by omega) (by simp; omega) ?_)
            intro v7 w7 ho7 hg7 hnn hbl7
            have P7 := HPX.out.add (a := 0) (by omega) ho7 HIX.out hg7 (by simpa using hbl7) hnewX
            have hgo3 : ∀ c, (vs' 0).ownBlock = some c → own3 c = none ∧ w.heap.size ≤ c := fun c hc => ⟨(HR2.out c hc).1, (HR1.out.lt c hc).1⟩
            have L7 := (HLX.out.grown hg7 hgo3).setOwn (b := w1.heap.size) HPX.out.nf hFw 0 v7
            have hF7 := HPX.out.bf.same (hg7.block w1.heap.size HPX.out.bf.lt (fun e => (HR2.out _ e.symm).2 rfl))
            have y7 := hF7.cell 0 _ (at_list vs' (show 0 < 3 by omega))
            have z7 := hF7.free 0
            obtain ⟨A7, c7, hv7⟩ := row_form ho7
            subst hv7
            have HP7 := Lib.hid P7
            have HL7 := Lib.hid L7
            clear P7 L7 hF7 ho7 hg7 hnn hbl7
            go_wp2_with fail
            exact ⟨⟨1, by omega, by go_num, _, _, _, HL7.out, HP7.out, S2.out⟩, by simp [intOf]⟩
        · have hcv := fun W : World => name_of W 98 98 rfl
          have Ly := Lx.on ((Below.refl _ _).alloc (Nat.le_refl _) (.cells #[.int .u8 98] 5))
          cases ho : rdE s (nm 1) with
          | none =>
            have hrdc := Lib.hid (lies_read Ly hok5 hfit5 hlive5 ⟨#[98]⟩ (by unfold maxLen; decide) none ho)
            have S2 := Lib.hid (seen_none Sx ho)
            clear ho Sx
            go_wp2_with fail
            refine hrdc.out.mono ?_
            rintro e w6 ⟨v6, rfl, hov6, hb6⟩
            obtain ⟨A6, n6, c6, rfl, hl6, hnc6, hcm6, hr6⟩ := hov6.form
            have hbk6 := bl_trans ((Below.refl _ wr).alloc (Nat.le_refl _) (.cells #[.int .u8 98] 5)) hb6
            have L6 := Lx.on hbk6
            have P6 := Px.quiet hbk6
            clear hov6 hrdc Ly Lx Px
            go_wp2_with fail
            exact ⟨⟨2, by omega, by go_num, vs', xs', hs', L6, P6, S2.out⟩, by simp [intOf]⟩
          | some b =>
            have hrdc := Lib.hid (lies_read Ly hok5 hfit5 hlive5 ⟨#[98]⟩ (by unfold maxLen; decide) (some b) ho)
            have S2 := Lib.hid (seen_some (by omega) Sx ho)
            have hfk : (hs' 1).length ≤ 40 := by
              have := Sx.few 1 (by omega)
              have := hfew 1 (by omega)
              omega
            clear ho Sx
            go_wp2_with fail
            refine hrdc.out.mono ?_
            rintro e w6 ⟨v6, rfl, hov6, hb6⟩
            have hbk6 := bl_trans ((Below.refl _ wr).alloc (Nat.le_refl _) (.cells #[.int .u8 98] 5)) hb6
            have L6 := Lx.on hbk6
            have P6 := Px.quiet hbk6
            have hisb := isB_own Ly.disk hov6
            obtain ⟨A6, c6, rfl, g1, g2, g3⟩ := hov6.shape
            have hbx : Below w6.heap.size w6 (w6.alloc (.cells #[.slice A6 b.length c6] 30)) := (Below.refl _ w6).alloc (Nat.le_refl _) _
            have LX := L6.on hbx
            have PX := P6.quiet hbx
            have IX := isB_quiet hisb hbx
            have hnewX : own3 (w6.alloc (.cells #[.slice A6 b.length c6] 30)).heap.size = none := own_new LX.disk (Nat.le_refl _)
            obtain ⟨r1, r2, r3⟩ := PX.val 1 (by omega)
            obtain ⟨Ar, cr, hvr⟩ := row_form r1
            have y0 := P6.cellF (a := 1) (by omega)
            have hszw : w.heap.size ≤ w6.heap.size := L6.below.size
            have HR1 := Lib.hid r1
            have HR2 := Lib.hid r2
            have HPX := Lib.hid PX
            have HLX := Lib.hid LX
            have HIX := Lib.hid IX
            have HVR := Lib.hid hvr
            clear hov6 hrdc Ly Lx Px r1 r2 r3 PX LX IX hisb P6 L6 hvr
            go_wp2_with (at_builtin; refine wpList_append_own_at _ rfl _ _ 28 rfl w.heap.size 30 i0 (.slice none 0 0) 1 24 Try.underlying28 hi hz0 hz1 hz2 rfl (by decide) (vs' 1) (hs' 1).length _ rfl HR1.out ⟨w6.heap.size, 0, none⟩ 1 1 [.slice A6 b.length c6] rfl rfl (one_cellS _ _ _) (by simp [Value.oneCell']) (by simp only [maxLen]; omega) (by omega) (by simp; omega) ?_)
            intro v7 w7 ho7 hg7 hnn hbl7
            have P7 := HPX.out.add (a := 1) (by omega) ho7 HIX.out hg7 (by simpa using hbl7) hnewX
            have hgo3 : ∀ c, (vs' 1).ownBlock = some c → own3 c = none ∧ w.heap.size ≤ c := fun c hc => ⟨(HR2.out c hc).1, (HR1.out.lt c hc).1⟩
            have L7 := (HLX.out.grown hg7 hgo3).setOwn (b := w1.heap.size) HPX.out.nf hFw 1 v7
            have hF7 := HPX.out.bf.same (hg7.block w1.heap.size HPX.out.bf.lt (fun e => (HR2.out _ e.symm).2 rfl))
            have y7 := hF7.cell 1 _ (at_list vs' (show 1 < 3 by omega))
            have z7 := hF7.free 1
            obtain ⟨A7, c7, hv7⟩ := row_form ho7
            subst hv7
            have HP7 := Lib.hid P7
            have HL7 := Lib.hid L7
            clear P7 L7 hF7 ho7 hg7 hnn hbl7
            go_wp2_with fail
            exact ⟨⟨2, by omega, by go_num, _, _, _, HL7.out, HP7.out, S2.out⟩, by simp [intOf]⟩
        · have hcv := fun W : World => name_of W 99 99 rfl
          have Ly := Lx.on ((Below.refl _ _).alloc (Nat.le_refl _) (.cells #[.int .u8 99] 5))
          cases ho : rdE s (nm 2) with
          | none =>
            have hrdc := Lib.hid (lies_read Ly hok5 hfit5 hlive5 ⟨#[99]⟩ (by unfold maxLen; decide) none ho)
            have S2 := Lib.hid (seen_none Sx ho)
            clear ho Sx
            go_wp2_with fail
            refine hrdc.out.mono ?_
            rintro e w6 ⟨v6, rfl, hov6, hb6⟩
            obtain ⟨A6, n6, c6, rfl, hl6, hnc6, hcm6, hr6⟩ := hov6.form
            have hbk6 := bl_trans ((Below.refl _ wr).alloc (Nat.le_refl _) (.cells #[.int .u8 99] 5)) hb6
            have L6 := Lx.on hbk6
            have P6 := Px.quiet hbk6
            clear hov6 hrdc Ly Lx Px
            go_wp2_with fail
            exact ⟨⟨3, by omega, by go_num, vs', xs', hs', L6, P6, S2.out⟩, by simp [intOf]⟩
          | some b =>
            have hrdc := Lib.hid (lies_read Ly hok5 hfit5 hlive5 ⟨#[99]⟩ (by unfold maxLen; decide) (some b) ho)
            have S2 := Lib.hid (seen_some (by omega) Sx ho)
            have hfk : (hs' 2).length ≤ 40 := by
              have := Sx.few 2 (by omega)
              have := hfew 2 (by omega)
              omega
            clear ho Sx
            go_wp2_with fail
            refine hrdc.out.mono ?_
            rintro e w6 ⟨v6, rfl, hov6, hb6⟩
            have hbk6 := bl_trans ((Below.refl _ wr).alloc (Nat.le_refl _) (.cells #[.int .u8 99] 5)) hb6
            have L6 := Lx.on hbk6
            have P6 := Px.quiet hbk6
            have hisb := isB_own Ly.disk hov6
            obtain ⟨A6, c6, rfl, g1, g2, g3⟩ := hov6.shape
            have hbx : Below w6.heap.size w6 (w6.alloc (.cells #[.slice A6 b.length c6] 30)) := (Below.refl _ w6).alloc (Nat.le_refl _) _
            have LX := L6.on hbx
            have PX := P6.quiet hbx
            have IX := isB_quiet hisb hbx
            have hnewX : own3 (w6.alloc (.cells #[.slice A6 b.length c6] 30)).heap.size = none := own_new LX.disk (Nat.le_refl _)
            obtain ⟨r1, r2, r3⟩ := PX.val 2 (by omega)
            obtain ⟨Ar, cr, hvr⟩ := row_form r1
            have y0 := P6.cellF (a := 2) (by omega)
            have hszw : w.heap.size ≤ w6.heap.size := L6.below.size
            have HR1 := Lib.hid r1
            have HR2 := Lib.hid r2
            have HPX := Lib.hid PX
            have HLX := Lib.hid LX
            have HIX := Lib.hid IX
            have HVR := Lib.hid hvr
            clear hov6 hrdc Ly Lx Px r1 r2 r3 PX LX IX hisb P6 L6 hvr
            go_wp2_with (at_builtin; refine wpList_append_own_at _ rfl _ _ 28 rfl w.heap.size 30 i0 (.slice none 0 0) 1 24 Try.underlying28 hi hz0 hz1 hz2 rfl (by decide) (vs' 2) (hs' 2).length _ rfl HR1.out ⟨w6.heap.size, 0, none⟩ 1 1 [.slice A6 b.length c6] rfl rfl (one_cellS _ _ _) (by simp [Value.oneCell']) (by simp only [maxLen]; omega) (by omega) (by simp; omega) ?_)
            intro v7 w7 ho7 hg7 hnn hbl7
            have P7 := HPX.out.add (a := 2) (by omega) ho7 HIX.out hg7 (by simpa using hbl7) hnewX
            have hgo3 : ∀ c, (vs' 2).ownBlock = some c → own3 c = none ∧ w.heap.size ≤ c := fun c hc => ⟨(HR2.out c hc).1, (HR1.out.lt c hc).1⟩
            have L7 := (HLX.out.grown hg7 hgo3).setOwn (b := w1.heap.size) HPX.out.nf hFw 2 v7
            have hF7 := HPX.out.bf.same (hg7.block w1.heap.size HPX.out.bf.lt (fun e => (HR2.out _ e.symm).2 rfl))
            have y7 := hF7.cell 2 _ (at_list vs' (show 2 < 3 by omega))
            have z7 := hF7.free 2
            obtain ⟨A7, c7, hv7⟩ := row_form ho7
            subst hv7
            have HP7 := Lib.hid P7
            have HL7 := Lib.hid L7
            clear P7 L7 hF7 ho7 hg7 hnn hbl7
            go_wp2_with fail
            exact ⟨⟨3, by omega, by go_num, _, _, _, HL7.out, HP7.out, S2.out⟩, by simp [intOf]⟩
        · have HH := Lib.hid (HST.out hs' Sx)
          have hlen : ∀ k, k < 3 → (hs' k).length ≤ j + 1 := fun k hk => by
            have := Sx.few k hk
            have := hfew k hk
            omega
          have HLX := Lib.hid Lx
          have HPX := Lib.hid Px
          clear Lx Px Sx
          go_wp2_with fail
          exact ⟨⟨j + 1, by omega, by go_num, own3, vs', xs', hs', by rw [HS.out]; exact HLX.out, by rw [HS.out]; exact HH.out, HPX.out, hlen⟩, by simp [intOf]; omega⟩
    · have hgo2 : (¬ j < n) ∨ (j < n ∧ ¬ j < 40) := by omega
      clear hgo
      have hrun := run_near 1048576 D j
      generalize dsE (newE 1048576) ((D.take j).map ddN) = s0 at *
      have hcr := Lib.hid (lies_crash hLj hrun.live Ak mk ck keep HKL.out hkr H64.out (fallOk_of hrun.inv hrun.short (hrun.bnd.mono (by omega) (by omega)) (by rw [hrun.room]; omega) keep))
      have hR := rdy_fall hrun (by omega) (by omega) keep
      have hfin : ∀ p ∈ (bootE (fallE s0 keep)).now, ∃ b, rdE (bootE (fallE s0 keep)) p.1 = some b ∧ ∃ k0 j0, k0 < 3 ∧ ∃ h : j0 < (hs k0).length, b.length ≤ ((hs k0)[j0]).length ∧ b = ((hs k0)[j0]).take b.length := fun p hp => by
        have hg := (getE_some hR.ok.1 (s := p.1) (i := p.2)).2 hp
        obtain ⟨b, hb, y, hy, h1, h2⟩ := had_fall hrun.inv hHad keep hg
        obtain ⟨k0, hk0, hy⟩ := mem_all.1 hy
        obtain ⟨j0, hj0, rfl⟩ := List.mem_iff_getElem.1 hy
        exact ⟨b, hb, k0, j0, hk0, hj0, h1, h2⟩
      have hdead : (bootE (fallE s0 keep)).dead = false := rfl
      generalize ht : bootE (fallE s0 keep) = t at *
      have HT := Lib.hid ht
      have hnl : t.now.length ≤ 1000000000 := hR.few
      obtain ⟨ns, hns⟩ : ∃ ns, ns = t.now.map (·.1) := ⟨_, rfl⟩
      have hnsl : ns.length ≤ 1000000000 := by rw [hns, List.length_map]; exact hnl
      have hall : ∀ q (h : q < ns.length), ∃ b, rdE t ns[q] = some b ∧ ∃ k0 j0, k0 < 3 ∧ ∃ h : j0 < (hs k0).length, b.length ≤ ((hs k0)[j0]).length ∧ b = ((hs k0)[j0]).take b.length := fun q hq => by
        have h1 := List.getElem_mem hq
        have h2 : ∀ x ∈ ns, ∃ p ∈ t.now, p.1 = x := fun x hx => by rw [hns] at hx; exact List.mem_map.1 hx
        obtain ⟨p, hp, e⟩ := h2 _ h1
        rw [← e]
        exact hfin p hp
      have HALL := Lib.hid hall
      have HNS := Lib.hid hns
      have HR := Lib.hid hR
      have HDE := Lib.hid hdead
      clear hall hns hR hfin hrun ht hdead hHad hnl
      rcases hgo2 with h | ⟨h, h'⟩
      all_goals
        go_wp2_with fail
        refine hcr.out.mono ?_
        rintro e w2 ⟨rfl, own2, hL2, hK2⟩
        have P2 := hHd.kept hK2
        clear hcr
        go_wp2_with fail
        refine (lies_boot hL2).mono ?_
        rintro e w3 ⟨rfl, own3, hL3, hK3⟩
        have P3 := P2.kept hK3
        rw [HT.out] at hL3
        go_wp2_with fail
        refine (lies_names3 hL3 HR.out.ok HDE.out HR.out.few ns HNS.out.symm).mono ?_
        rintro e w4 ⟨g, cap, rfl, hrow, hb4⟩
        have hL4 := hL3.on hb4
        have P4 := P3.quiet hb4
        have hgn : own3 g = none := own_new hL3.disk (hrow.lt g rfl).1
        have hcapn : ns.length ≤ cap ∧ cap ≤ maxLen := by
          rcases hrow.2 with ⟨e, _⟩ | ⟨g', cap', cur, e, _, _, h1, h2, _⟩
          · cases e
          · cases e; exact ⟨h1, h2⟩
        have hRN : RdNo w4 own3 (some ⟨g, 0, none⟩) ns := ⟨RdN.of_row hrow, fun _ p hp => by cases hp; exact hgn⟩
        have hkeys := Lib.hid (lies_keys hL4)
        clear hrow P2 P3 hL2 hL3
        go_wp2_with fail
        go_loopw [13] (fun i wr => ∃ k : Nat, k ≤ ns.length ∧ i = .int .i64 (k : Int) ∧ Below w4.heap.size w4 wr) (fun i _ => ns.length - (intOf i).toNat)
        case atStart => exact ⟨0, Nat.zero_le _, rfl, Below.refl _ _⟩
        case round =>
          obtain ⟨k, hk, rfl, hblk⟩ := hrel
          have hLk := hL4.on hblk
          by_cases hlt : k < ns.length
          · obtain ⟨ad, had, hcell⟩ := (hRN.1.below hblk).cell hlt
            cases had
            rw [add_at] at hcell
            have hmem : ∃ p ∈ t.now, p.1 = ns[k] := by
              have h1 := List.getElem_mem hlt
              have h2 : ∀ x ∈ ns, ∃ p ∈ t.now, p.1 = x := fun x hx => by rw [HNS.out] at hx; exact List.mem_map.1 hx
              exact h2 _ h1
            obtain ⟨p, hp, hpe⟩ := hmem
            have hsz : (ByteArray.mk (ns[k]).toArray).size ≤ maxLen := by
              have := hkeys.out p hp
              rw [hpe] at this
              show (ns[k]).toArray.size ≤ _
              simpa using this
            obtain ⟨b, hb, k0, j0, hk0, hj0, hbl, hbe⟩ := HALL.out k hlt
            have hrdc := lies_read hLk HR.out.ok HR.out.fit HDE.out ⟨(ns[k]).toArray⟩ hsz (some b) hb
            have HBE := Lib.hid hbe
            have HBL := Lib.hid hbl
            clear hp hpe hsz hb hbl hbe
            go_wp2_with fail
            refine hrdc.mono ?_
            rintro e w5 ⟨v5, rfl, hov5, hb5⟩
            have hbk5 := bl_trans hblk hb5
            have P5 := P4.quiet hbk5
            obtain ⟨A5, c5, rfl, g1, g2, hr5⟩ := hov5.shape
            clear hov5 hcell hrdc hLk
            go_wp2_with fail
            go_loopw [16, 17] (fun f i wx => ∃ (kk : Nat) (fb : Bool), kk ≤ 3 ∧ i = .int .i64 (kk : Int) ∧ f = .bool fb ∧ (k0 < kk → fb = true) ∧ Below w5.heap.size w5 wx) (fun _ i _ => 3 - (intOf i).toNat)
            case atStart => exact ⟨0, false, by omega, rfl, rfl, fun h => by omega, Below.refl _ _⟩
            case round =>
              obtain ⟨kk, fb, hkk, rfl, rfl, hfb, hblx⟩ := hrel
              by_cases hk3 : kk < 3
              · have hk3' : (kk : Int) < 3 := by omega
                have Px := P5.quiet hblx
                obtain ⟨q1, q2, q3⟩ := Px.val kk hk3
                obtain ⟨Ar, cr, hvr⟩ := row_form q1
                have y0 := Px.cellF hk3
                rw [hvr] at y0
                have HVR := Lib.hid hvr
                have HFB := Lib.hid hfb
                have hhl : (hs kk).length ≤ 40 := by have := hfew kk hk3; omega
                clear q1 q2 q3 Px hvr hfb y0
                go_wp2_with fail
                go_loopw [16, 18] (fun f i wy => ∃ (jj : Nat) (fc : Bool), jj ≤ (hs kk).length ∧ i = .int .i64 (jj : Int) ∧ f = .bool fc ∧ (k0 < kk ∨ k0 = kk ∧ j0 < jj → fc = true) ∧ Below w5.heap.size w5 wy) (fun _ i _ => (hs kk).length - (intOf i).toNat)
                case atStart => exact ⟨0, fb, Nat.zero_le _, rfl, rfl, fun h => HFB.out (by omega), hblx⟩
                case round =>
                  obtain ⟨jj, fc, hjj, rfl, rfl, hfc, hbly⟩ := hrel
                  have Py := P5.quiet hbly
                  have y0 := Py.cellF hk3
                  rw [HVR.out] at y0
                  by_cases hjl : jj < (hs kk).length
                  · obtain ⟨Ar', cr', hvr', hcc, u, hu, hub⟩ := Py.cellR hk3 hjl
                    have e1 := HVR.out
                    rw [hvr'] at e1
                    simp only [Value.slice.injEq] at e1
                    obtain ⟨rfl, -, rfl⟩ := e1
                    rw [add_at] at hu
                    obtain ⟨Au, cu, rfl, hu1, hu2, hu3, hu4⟩ := hub
                    have HFC := Lib.hid hfc
                    clear hfc hvr' hu4 Py
                    cases fc with
                    | true =>
                      clear HFC hu3
                      go_wp2_with fail
                      exact ⟨⟨jj + 1, true, by omega, by go_num, rfl, fun _ => rfl, hbly⟩, by simp [intOf]; omega⟩
                    | false =>
                      have hnot : ¬ (k0 < kk ∨ k0 = kk ∧ j0 < jj) := fun h => by have := HFC.out h; cases this
                      by_cases hle : b.length ≤ ((hs kk)[jj]).length
                      · have hct := cut_to2 Au ((hs kk)[jj]).length cu b.length hle hu1
                        have heq := eq_any A5 Au b.length c5 b.length cu b (((hs kk)[jj]).take b.length) wr rfl (by rw [List.length_take, Nat.min_eq_left hle]) (hr5.below hbly) (hu3.1.take b.length) (by unfold maxLen at *; omega) (by unfold maxLen at *; omega)
                        have hgood : k0 = kk ∧ j0 = jj → decide (b = ((hs kk)[jj]).take b.length) = true := by
                          rintro ⟨rfl, rfl⟩
                          exact decide_eq_true HBE.out
                        have HG := Lib.hid hgood
                        generalize decide (b = ((hs kk)[jj]).take b.length) = ans at heq HG
                        have d1 : decide ((b.length : Int) ≤ (((hs kk)[jj]).length : Int)) = true := by simp; omega
                        clear HFC hu3 hgood
                        go_wp2_with (go_at_call 13; refine heq.mono ?_; rintro e w8 ⟨rfl, hb8⟩)
                        exact ⟨⟨jj + 1, ans, by omega, by go_num, rfl, fun h => HG.out (by omega), bl_trans hbly hb8⟩, by simp [intOf]; omega⟩
                      · have d1 : decide ((b.length : Int) ≤ (((hs kk)[jj]).length : Int)) = false := by simp; omega
                        have hbad : ¬ (k0 = kk ∧ j0 = jj) := by
                          rintro ⟨rfl, rfl⟩
                          exact hle HBL.out
                        clear HFC hu3
                        go_wp2_with fail
                        exact ⟨⟨jj + 1, false, by omega, by go_num, rfl, fun h => absurd (show k0 = kk ∧ j0 = jj by omega) hbad, hbly⟩, by simp [intOf]; omega⟩
                  · have hje : jj = (hs kk).length := by omega
                    have HFC := Lib.hid hfc
                    clear hfc Py
                    go_wp2_with fail
                    refine ⟨⟨kk + 1, fc, by omega, by go_num, rfl, fun h => HFC.out ?_, hbly⟩, by simp [intOf]; omega⟩
                    by_cases e : k0 = kk
                    · subst e
                      exact .inr ⟨rfl, by omega⟩
                    · exact .inl (by omega)
              · have hke : kk = 3 := by omega
                subst hke
                have hft : fb = true := hfb hk0
                subst hft
                go_wp2_with fail
                exact ⟨⟨k + 1, by omega, by go_num, bl_trans hbk5 hblx⟩, by simp [intOf]; omega⟩
          · go_wp2_with fail
            refine (awake_any _).mono ?_
            rintro e w12 ⟨rfl, hb12⟩
            go_wp2_with fail
            go_ret
            exact ⟨rfl, bl_trans hLk.below hb12⟩
set_option maxRecDepth 100000 in
theorem DiskBegins_holds : Rows.DiskBeginsSaid :=
  OpenClaim.holds_of_wide 3 Try.f3 rfl rfl rfl rfl rfl rfl rfl ⟨rfl, rfl, rfl, rfl, rfl⟩ rfl rfl rfl rfl rfl (by kernel_rfl) Try.func3 (by kernel_rfl)
    (of_decide_eq_true (by kernel_rfl)) (by unfold Func.isWrapper; first | (rw [if_pos (by decide +kernel)]; kernel_rfl) | (rw [if_neg (by decide +kernel)]; exact ⟨rfl, rfl⟩))
    (fun os started H enc _ => law_lifted (s := Rows.diskBeginsSpec) Try.func3 (by kernel_rfl) rfl
      (fun H ds h => by rw [Try.params3] at h; match ds, h with | [_, _], _ => rfl) (by kernel_rfl) (by kernel_rfl)
      os started H enc
      (ChangeSpec.witness6 (enc := enc) (C := Try.checked) false ⟨#[], #[.slice none 0 0, .slice none 0 0], []⟩ 8 (by kernel_rfl) (by kernel_rfl) (by kernel_rfl) (by kernel_rfl))
      (fun W args ds p h => by
        obtain ⟨⟨base, hok⟩, hA, hl⟩ := h
        rw [Try.params3] at hok hA hl
        obtain ⟨v0, v1, d0, d1, p0, p1, rfl, rfl, rfl, g0, g1⟩ := trodAll_two hA
        obtain ⟨A0, n0, c0, l0, rfl, e0, a0, b0, r0, x0⟩ := open_deeds (hok 0 22 v0 rfl rfl) g0 (hl 0 22 d0 rfl rfl)
        obtain ⟨A1, n1, c1, l1, rfl, e1, a1, b1, r1, i1⟩ := open_int_list (hok 1 23 v1 rfl rfl) g1 (hl 1 23 d1 rfl rfl)
        exact begins_walk W A0 n0 c0 l0 A1 n1 c1 l1 e0 a0 r0 x0 e1 r1 i1 b0))

end Go.Proofs.Ytdgaipdpebinbaa
