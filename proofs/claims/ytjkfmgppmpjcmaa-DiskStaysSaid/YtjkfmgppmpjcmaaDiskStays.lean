/- Behind a fall, and Boot, what is there is there behind another fall at once, whatever is kept: DiskStays, of all deeds, and what is kept, twice. No condition. -/
import Derived.Test.YtjkfmgppmpjcmaaDkSt
set_option linter.unusedVariables false
set_option linter.unusedSimpArgs false
namespace Go.Proofs.Ytjkfmgppmpjcmaa
open Go.RowKit Go.Maps Go.Shelf Go.Sort Go.ChangeShapes Go.WideShapes Go.ChangeAt

/-- What the k-th name of a disk reads as. -/
def dasE (t : DS) (k : Nat) : BS := (rdE t ((t.now.map (·.1)).getD k [])).getD []
theorem das_at {t : DS} (hI : OkM t.files.length t.now) {k : Nat} (hk : k < (t.now.map (·.1)).length) : rdE t (t.now.map (·.1))[k] = some (dasE t k) := by
  have hk2 : k < t.now.length := by simpa using hk
  obtain ⟨b, hb⟩ := rd_now hI (List.getElem_mem hk2)
  have e : (t.now.map (·.1))[k] = t.now[k].1 := by simp
  unfold dasE
  have e2 : (t.now.map (·.1)).getD k [] = (t.now.map (·.1))[k] := by simp [List.getD, hk2]
  rw [e2, e, hb]
  rfl

set_option maxHeartbeats 4000000 in
set_option maxRecDepth 40000 in
theorem stays_walk (w : World) (A : Option Addr) (n c : Nat) (D : List MD) (Ak : Option Addr) (mk ck : Nat) (keep : List Int) (Am : Option Addr) (mm cm : Nat) (more : List Int)
    (hl : D.length = n) (hnc : n ≤ c) (hr : RdD w A D) (hD : ∀ x ∈ D, x.Ok w) (hkl : keep.length = mk) (hkr : RdI w Ak keep) (h64 : In64 keep) (hml : more.length = mm) (hmr : RdI w Am more) (h64m : In64 more) (hc : c ≤ 140737488351232) :
    Calls Try.prog 4 #[.slice A n c, .slice Ak mk ck, .slice Am mm cm] w (Yes w) := by
  have hnew : ∀ w, _ := fun w => new_any w 1048576 (by omega)
  obtain ⟨i0, hi, hz0, hz1, hz2⟩ := info_parts info_bs
  have HD := Lib.hid hD
  have HL := Lib.hid hl
  have HKL := Lib.hid hkl
  have H64 := Lib.hid h64
  have HML := Lib.hid hml
  have H64M := Lib.hid h64m
  clear hD hl hkl h64 hml h64m
  go_enter Try.func4, Try.ntmps4
  go_wp2_with fail
  refine (hnew w).mono ?_
  rintro e w1 ⟨own0, d, rfl, hd0, hf0, hb0⟩
  clear hnew
  have hL0 : Lies w w1 own0 d (dsE (newE 1048576) ((D.take 0).map ddN)) := ⟨hd0, hf0, hb0⟩
  clear hd0 hf0 hb0
  go_wp2_with fail
  go_loopw [9] (fun i wr => ∃ j : Nat, j ≤ 60 ∧ i = .int .i64 (j : Int) ∧ ∃ own, Lies w wr own d (dsE (newE 1048576) ((D.take j).map ddN))) (fun i _ => 60 - (intOf i).toNat)
  case atStart => exact ⟨0, by omega, rfl, own0, hL0⟩
  case round =>
    clear hL0
    obtain ⟨j, hj, rfl, own, hLj⟩ := hrel
    by_cases hgo : j < n ∧ j < 60
    · obtain ⟨hlt, h60⟩ := hgo
      have hjl : j < D.length := by have := HL.out; omega
      have hx := HD.out _ (List.getElem_mem hjl)
      obtain ⟨ad, rfl, q0, q1, q2, q3, q4, q5, q6⟩ := (hr.below hLj.below).load hjl
      have hne := near_md D[j] wr hx
      have hdo := Lib.hid (fun w' own' (h : Lies w w' own' d (dsE (newE 1048576) ((D.take j).map ddN))) => does_near h (run_near 1048576 D j) (by omega) (by omega) (by omega) D[j] hx)
      have hnx := Lib.hid (near_next 1048576 hjl)
      unfold MD.val deedV at hne
      go_wp2_with fail
      refine hne.mono ?_
      rintro e w2 ⟨rfl, hb2⟩
      have hL2 := hLj.on hb2
      clear q0 q1 q2 q3 q4 q5 q6 hne
      go_wp2_with fail
      refine (hdo.out _ _ hL2).mono ?_
      intro e w3 hgot
      rw [hnx.out] at hgot
      obtain ⟨rfl, own3, hL3, _⟩ := lies_got hL2 hgot
      clear hgot hdo hnx hLj hL2
      go_wp2
      exact ⟨⟨j + 1, by omega, by go_num, own3, hL3⟩, by simp [intOf]; omega⟩
    · have hgo2 : (¬ j < n) ∨ (j < n ∧ ¬ j < 60) := by omega
      clear hgo
      have hrun := run_near 1048576 D j
      generalize dsE (newE 1048576) ((D.take j).map ddN) = s0 at *
      have hcr := Lib.hid (lies_crash hLj hrun.live Ak mk ck keep HKL.out hkr H64.out (fallOk_of hrun.inv hrun.short (hrun.bnd.mono (by omega) (by omega)) (by rw [hrun.room]; omega) keep))
      have hR := rdy_fall hrun (by omega) (by omega) keep
      have hcalm := calm_boot (calm_fall hrun.inv keep)
      have hinj : ∀ i, cntE i (bootE (fallE s0 keep)).now ≤ 1 := fun i => by
        show cntE i (fallE s0 keep).now ≤ 1
        rw [fall_now]
        exact hrun.inv.inj _ i
      have hnl : (bootE (fallE s0 keep)).now.length ≤ 1000000 := by
        show (fallE s0 keep).now.length ≤ _
        rw [fall_now]
        have := play_len s0 (manyE s0 keep)
        have h2 : manyE s0 keep ≤ s0.works.length := brE_le _ _ _
        have := hrun.bnd.kept
        have := hrun.bnd.works
        omega
      have hfl : (bootE (fallE s0 keep)).files.length ≤ 1099511627776 := by
        show (fallE s0 keep).files.length ≤ _
        rw [fall_len]
        have := hrun.bnd.files
        omega
      have hroom : (bootE (fallE s0 keep)).room ≤ 16777216 := by
        show s0.room ≤ _
        rw [hrun.room]; omega
      have hF2 := fallOk_calm hcalm hinj hnl hR.fit hfl hroom more
      have hdead : (bootE (fallE s0 keep)).dead = false := rfl
      generalize ht : bootE (fallE s0 keep) = t at *
      have HT := Lib.hid ht
      have hnow2 : (bootE (fallE t more)).now = t.now := calm_now hcalm more
      have hrd2 : ∀ nm, rdE (bootE (fallE t more)) nm = rdE t nm := fun nm => calm_rd hcalm more nm
      have hcalm2 : OkM (bootE (fallE t more)).files.length (bootE (fallE t more)).now := by
        rw [hnow2]
        show OkM (fallE t more).files.length _
        rw [fall_len]
        exact hcalm.ok
      have hfit2 : Fit (bootE (fallE t more)).files := by
        have := fall_sum t more
        have := hR.fit
        unfold Fit at *
        show ((fallE t more).files.map fun f => f.data.length).sum ≤ _
        omega
      obtain ⟨ns, hns⟩ : ∃ ns, ns = t.now.map (·.1) := ⟨_, rfl⟩
      have hnsl : ns.length ≤ 1000000 := by rw [hns, List.length_map]; exact hnl
      have hat : ∀ k (hk : k < ns.length), rdE t ns[k] = some (dasE t k) := by
        subst hns
        exact fun k hk => das_at hR.ok hk
      have HAT := Lib.hid hat
      have HNS := Lib.hid hns
      have HR := Lib.hid hR
      have HF := Lib.hid hF2
      have HN2 := Lib.hid hnow2
      have HRD2 := Lib.hid hrd2
      have HC2 := Lib.hid hcalm2
      have HFI := Lib.hid hfit2
      have HDE := Lib.hid hdead
      clear hat hns hR hF2 hnow2 hrd2 hcalm2 hfit2 hcalm hinj hnl hfl hroom hrun ht hdead
      rcases hgo2 with h | ⟨h, h'⟩
      all_goals
        go_wp2_with fail
        refine hcr.out.mono ?_
        rintro e w2 ⟨rfl, own2, hL2, _⟩
        clear hcr
        go_wp2_with fail
        refine (lies_boot hL2).mono ?_
        rintro e w3 ⟨rfl, own3, hL3, _⟩
        rw [HT.out] at hL3
        go_wp2_with fail
        refine (lies_names3 hL3 HR.out.ok HDE.out HR.out.few ns HNS.out.symm).mono ?_
        rintro e w4 ⟨g, cap, rfl, hrow, hb4⟩
        have hL4 := hL3.on hb4
        have hgn : own3 g = none := own_new hL3.disk (hrow.lt g rfl).1
        have hcapn : ns.length ≤ cap ∧ cap ≤ maxLen := by
          rcases hrow.2 with ⟨e, _⟩ | ⟨g', cap', cur, e, _, _, h1, h2, _⟩
          · cases e
          · cases e; exact ⟨h1, h2⟩
        have hRN : RdNo w4 own3 (some ⟨g, 0, none⟩) ns := ⟨RdN.of_row hrow, fun _ p hp => by cases hp; exact hgn⟩
        have hkeys := Lib.hid (lies_keys hL4)
        clear hrow
        go_wp2_with fail
        go_loopw [11, 12] (fun v i wr => ∃ k : Nat, k ≤ ns.length ∧ i = .int .i64 (k : Int) ∧ Below w4.heap.size w4 wr ∧ ∃ vals, wr.ownsRow w4.heap.size 28 1 v k vals ∧ ∀ q, q < k → ∃ u, vals[q]? = some u ∧ IsB wr own3 u (dasE t q)) (fun _ i _ => ns.length - (intOf i).toNat)
        case atStart => exact ⟨0, Nat.zero_le _, rfl, Below.refl _ _, [], World.ownsRow_nil _ _ _ _, fun q hq => by omega⟩
        case round =>
          obtain ⟨k, hk, rfl, hblk, vals, hown, hvals⟩ := hrel
          have hLk := hL4.on hblk
          have hRNk := hRN.kept (Kept.of_below hblk own3)
          by_cases hlt : k < ns.length
          · obtain ⟨ad, had, hcell⟩ := hRNk.1.cell hlt
            cases had
            rw [add_at] at hcell
            have hmem : ∃ p ∈ t.now, p.1 = ns[k] := by
              have h1 := List.getElem_mem hlt
              have h2 : ∀ x ∈ ns, ∃ p ∈ t.now, p.1 = x := fun x hx => by rw [HNS.out] at hx; exact List.mem_map.1 hx
              exact h2 _ h1
            obtain ⟨p, hp, hpe⟩ := hmem
            have hsz : (ByteArray.mk (ns[k]).toArray).size ≤ maxLen := by
              have := hkeys.out p hp
              rw [hpe] at this
              show (ns[k]).toArray.size ≤ _
              simpa using this
            have hrdc := lies_read hLk HR.out.ok HR.out.fit HDE.out ⟨(ns[k]).toArray⟩ hsz (some (dasE t k)) (HAT.out k hlt)
            have HV := Lib.hid hvals
            clear hvals hp hpe hsz
            go_wp2_with fail
            refine hrdc.mono ?_
            rintro e w5 ⟨v5, rfl, hov5, hb5⟩
            have hown5 : w5.ownsRow w4.heap.size 28 1 u11 k vals := World.ownsRow.kept hown (grown_of_below hb5 none) (by
              cases e : u11.ownBlock with
              | none => exact .inl rfl
              | some c => exact .inr (by simp))
            have hisb := isB_own hLk.disk hov5
            obtain ⟨A5, c5, rfl, h51, h52, h53, h54⟩ := hisb
            have hisb : IsB w5 own3 (.slice A5 (dasE t k).length c5) (dasE t k) := ⟨A5, c5, rfl, h51, h52, h53, h54⟩
            have hbk5 := bl_trans hblk hb5
            have hbase : ∀ q, u11.ownBlock = some q → w4.heap.size ≤ q := fun q e => (hown.lt q e).1
            have HB := Lib.hid hbase
            have hsz4 := hblk.size
            have hsz5 := hb5.size
            clear hown hbase hov5 hcell
            go_wp2_with (at_builtin; refine wpList_append_own _ rfl _ _ 44 rfl w4.heap.size 28 i0 (.slice none 0 0) 1 24 Try.underlying44 hi hz0 hz1 hz2 rfl (by decide) _ k _ rfl (World.ownsRow.alloc hown5 _) ⟨w5.heap.size, 0, none⟩ 1 1 [.slice A5 (dasE t k).length c5] rfl rfl (one_cellS _ _ _) (by simp [Value.oneCell']) (by simp only [maxLen]; omega) (by omega) (by simp; omega) ?_)
            intro v6 w6 ho6 hg6 hnn
            have hb6 : Below w4.heap.size w4 w6 := bl_grown (bl_alloc hbk5 _) hg6 HB.out
            have hkind := Lib.hid (row_kind (World.ownsRow.alloc hown5 (.cells #[.slice A5 (dasE t k).length c5] 28)))
            go_wp2_with fail
            refine ⟨⟨k + 1, by omega, by go_num, hb6, _, ho6, fun q hq => ?_⟩, by simp [intOf]; omega⟩
            have hal : Below w5.heap.size w5 (w5.alloc (.cells #[.slice A5 (dasE t k).length c5] 28)) := (Below.refl _ _).alloc (Nat.le_refl _) _
            have hlv : vals.length = k := by have := hown5.1; omega
            by_cases hqk : q < k
            · obtain ⟨u, hu, hb⟩ := HV.out q hqk
              exact ⟨u, by rw [List.getElem?_append_left (by omega)]; exact hu, isB_grown (isB_quiet (isB_quiet hb hb5) hal) hg6 hkind.out⟩
            · have hqe : q = k := by omega
              subst hqe
              exact ⟨_, by rw [List.getElem?_append_right (by omega), hlv]; simp, isB_grown (isB_quiet hisb hal) hg6 hkind.out⟩
          · have hke : k = ns.length := by omega
            subst hke
            clear hlt hk
            obtain ⟨Av, cv, rfl, hcv1, hcv2, hRB⟩ := rdB_of hL4.disk hown hvals
            clear hown hvals
            have hcr2 := Lib.hid (lies_crash hLk HDE.out Am mm cm more HML.out hmr H64M.out HF.out)
            go_wp2_with fail
            refine hcr2.out.mono ?_
            rintro e w6 ⟨rfl, own6, hL6, hK6⟩
            have hgone := lies_gone hL6 rfl
            have hdd := lies_dead hL6 true rfl
            clear hcr2
            go_wp2_with (first | (go_at_call 20; (with_reducible refine hdd.mono ?_); rintro e w6 ⟨rfl, rfl⟩) | (go_at_call 19; (with_reducible refine hgone.1.mono ?_); rintro e w6 ⟨rfl, rfl⟩) | (go_at_call 21; (with_reducible refine hgone.2.mono ?_); rintro e w6 ⟨rfl, rfl⟩) | fail)
            refine (lies_boot hL6).mono ?_
            rintro e w7 ⟨rfl, own7, hL7, hK7⟩
            have hRN7 := (hRNk.kept hK6).kept hK7
            have hRB7 := (hRB.kept hK6).kept hK7
            clear hgone hdd hRNk hRB hL6
            go_wp2_with fail
            refine (lies_names3 hL7 HC2.out rfl (by rw [HN2.out]; exact HR.out.few) ns (by rw [HN2.out]; exact HNS.out.symm)).mono ?_
            rintro e w8 ⟨g8, cap8, rfl, hrow8, hb8⟩
            have hL8 := hL7.on hb8
            have hRN8 := hRN7.kept (Kept.of_below hb8 own7)
            have hRB8 := hRB7.kept (Kept.of_below hb8 own7)
            have hsame := same_any (some ⟨g, 0, none⟩) (some ⟨g8, 0, none⟩) ns.length cap cap8 ns w8 rfl hRN8.1 (RdN.of_row hrow8) (by unfold maxLen; omega)
            clear hrow8 hRN7 hRB7 hL7
            go_wp2_with fail
            refine hsame.mono ?_
            rintro e w9 ⟨rfl, hb9⟩
            have hL9 := hL8.on hb9
            have hRN9 := hRN8.kept (Kept.of_below hb9 own7)
            have hRB9 := hRB8.kept (Kept.of_below hb9 own7)
            have hkeys9 := Lib.hid (lies_keys hL9)
            have hdd9 := lies_dead hL9 false rfl
            clear hsame hRN8 hRB8 hL8
            go_wp2_with (go_at_call 20; (with_reducible refine hdd9.mono ?_); rintro e w9 ⟨rfl, rfl⟩)
            clear hdd9
            go_loopw [15] (fun i wx => ∃ k : Nat, k ≤ ns.length ∧ i = .int .i64 (k : Int) ∧ Below w9.heap.size w9 wx) (fun i _ => ns.length - (intOf i).toNat)
            case atStart => exact ⟨0, Nat.zero_le _, rfl, Below.refl _ _⟩
            case round =>
              obtain ⟨k, hk, rfl, hblx⟩ := hrel
              have hLx := hL9.on hblx
              by_cases hlt : k < ns.length
              · obtain ⟨ad, had, hcell⟩ := (hRN9.1.below hblx).cell hlt
                cases had
                rw [add_at] at hcell
                have hmem : ∃ p ∈ (bootE (fallE t more)).now, p.1 = ns[k] := by
                  rw [HN2.out]
                  have h1 := List.getElem_mem hlt
                  have h2 : ∀ x ∈ ns, ∃ p ∈ t.now, p.1 = x := fun x hx => by rw [HNS.out] at hx; exact List.mem_map.1 hx
                  exact h2 _ h1
                obtain ⟨p, hp, hpe⟩ := hmem
                have hsz : (ByteArray.mk (ns[k]).toArray).size ≤ maxLen := by
                  have := hkeys9.out p hp
                  rw [hpe] at this
                  show (ns[k]).toArray.size ≤ _
                  simpa using this
                have hrdc := lies_read hLx HC2.out HFI.out rfl ⟨(ns[k]).toArray⟩ hsz (some (dasE t k)) (by rw [HRD2.out]; exact HAT.out k hlt)
                clear hp hpe hsz
                go_wp2_with fail
                refine hrdc.mono ?_
                rintro e w10 ⟨v10, rfl, hov10, hb10⟩
                obtain ⟨A10, n10, c10, rfl, hl10, hnc10, hcm10, hr10⟩ := hov10.form
                have hb10' := bl_trans hblx hb10
                obtain ⟨adb, hadb, hfb, hcb⟩ := (hRB9.kept (Kept.of_below hb10' own7)) (by omega)
                obtain ⟨u, hu, Au, cu, rfl, hu1, hu2, hu3, hu4⟩ := hcb k hlt
                subst hadb
                have heq := eq_any A10 Au n10 c10 (dasE t k).length cu (dasE t k) (dasE t k) w10 hl10.out rfl hr10 hu3.1 (by omega) (by omega)
                rw [decide_eq_true rfl] at heq
                clear hov10 hcb hcell
                go_wp2_with fail
                refine heq.mono ?_
                rintro e w11 ⟨rfl, hb11⟩
                go_wp2_with fail
                exact ⟨⟨k + 1, by omega, by go_num, bl_trans hb10' hb11⟩, by simp [intOf]; omega⟩
              · go_wp2_with fail
                refine (awake_any _).mono ?_
                rintro e w12 ⟨rfl, hb12⟩
                go_wp2_with fail
                go_ret
                exact ⟨rfl, bl_trans hLx.below hb12⟩
set_option maxRecDepth 100000 in
theorem DiskStays_holds : Rows.DiskStaysSaid :=
  OpenClaim.holds_of_wide 4 Try.f4 rfl rfl rfl rfl rfl rfl rfl ⟨rfl, rfl, rfl, rfl, rfl⟩ rfl rfl rfl rfl rfl (by kernel_rfl) Try.func4 (by kernel_rfl)
    (of_decide_eq_true (by kernel_rfl)) (by unfold Func.isWrapper; first | (rw [if_pos (by decide +kernel)]; kernel_rfl) | (rw [if_neg (by decide +kernel)]; exact ⟨rfl, rfl⟩))
    (fun os started H enc _ => law_lifted (s := Rows.diskStaysSpec) Try.func4 (by kernel_rfl) rfl
      (fun H ds h => by rw [Try.params4] at h; match ds, h with | [_, _, _], _ => rfl) (by kernel_rfl) (by kernel_rfl)
      os started H enc
      (ChangeSpec.witness6 (enc := enc) (C := Try.checked) false ⟨#[], #[.slice none 0 0, .slice none 0 0, .slice none 0 0], []⟩ 8 (by kernel_rfl) (by kernel_rfl) (by kernel_rfl) (by kernel_rfl))
      (fun W args ds p h => by
        obtain ⟨⟨base, hok⟩, hA, hl⟩ := h
        rw [Try.params4] at hok hA hl
        obtain ⟨v0, v1, v2, d0, d1, d2, p0, p1, p2, rfl, rfl, rfl, g0, g1, g2⟩ := trodAll_three hA
        obtain ⟨A0, n0, c0, l0, rfl, e0, a0, b0, r0, x0⟩ := open_deeds (hok 0 22 v0 rfl rfl) g0 (hl 0 22 d0 rfl rfl)
        obtain ⟨A1, n1, c1, l1, rfl, e1, a1, b1, r1, i1⟩ := open_int_list (hok 1 23 v1 rfl rfl) g1 (hl 1 23 d1 rfl rfl)
        obtain ⟨A2, n2, c2, l2, rfl, e2, a2, b2, r2, i2⟩ := open_int_list (hok 2 23 v2 rfl rfl) g2 (hl 2 23 d2 rfl rfl)
        exact stays_walk W A0 n0 c0 l0 A1 n1 c1 l1 A2 n2 c2 l2 e0 a0 r0 x0 e1 r1 i1 e2 r2 i2 b0))

end Go.Proofs.Ytjkfmgppmpjcmaa
