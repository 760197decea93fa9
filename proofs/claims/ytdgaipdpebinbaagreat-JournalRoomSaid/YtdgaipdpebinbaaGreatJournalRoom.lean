/- What has no room is refused, and changes nothing; the journal goes on: JournalRoom, of all rooms up to 300, and lists of bytes. No condition. -/
import Derived.Test.YtdgaipdpebinbaaGreatJoLc
set_option linter.unusedVariables false
set_option linter.unusedSimpArgs false
namespace Go.Proofs.YtdgaipdpebinbaaGreat
open Go.RowKit Go.Maps Go.Shelf Go.Sort Go.ChangeShapes Go.WideShapes Go.ChangeAt

theorem broken_any {w : World} {own : Nat → Option Role} {J d cnt kp : Nat} (hJ : JIn w own J d cnt kp false) : Calls Tryz.prog 34 #[.pointer (some ⟨J, 0, none⟩)] w (GotV w (.bool false)) := by
  have c3 := hJ.1.cell 3 _ rfl
  have hq := jnone_any hJ
  go_enter Tryz.func34, Tryz.ntmps34
  go_wp2_with ((with_reducible refine hq.mono ?_); rintro e w ⟨rfl, rfl⟩)
  go_ret
  exact ⟨rfl, rfl⟩
theorem cat_snoc_len (l : List BS) (b : BS) : (catR 1 (l ++ [b])).length = (catR 1 l).length + (b.length + 20) := by rw [catR_snoc, List.length_append, rec_len]
/-- A row of the call's own, none of it a disk's, whose slices are read alone. -/
def WantAt (w1 w : World) (o : Nat → Option Role) (v : Value) (W : List BS) : Prop := ∃ vals, w.ownsRow w1.heap.size 22 1 v W.length vals ∧ (∀ g, v.ownBlock = some g → o g = none) ∧ RdVals w1 vals W
theorem WantAt.kept {w1 w w' : World} {o o' : Nat → Option Role} {v : Value} {W : List BS} (h : WantAt w1 w o v W) (hK : Kept w w' o o') : WantAt w1 w' o' v W := by
  obtain ⟨vals, ho, hf, hv⟩ := h
  refine ⟨vals, ⟨ho.1, ?_⟩, fun g hg => free_kept hK (ho.lt g hg).2 (hf g hg), hv⟩
  have hlt := ho.lt
  rcases ho.2 with hn | ⟨g, cap, cur, rfl, hb, hg, rest⟩
  · exact .inl hn
  · exact .inr ⟨g, cap, cur, rfl, hb, (hK.block g (hlt g rfl).2 (hf g rfl)).trans hg, rest⟩
theorem WantAt.less {w1 w : World} {o o' : Nat → Option Role} {v : Value} {W : List BS} (h : WantAt w1 w o v W) (hl : ∀ g, o g = none → o' g = none) : WantAt w1 w o' v W := by
  obtain ⟨vals, ho, hf, hv⟩ := h
  exact ⟨vals, ho, fun g hg => hl g (hf g hg), hv⟩
theorem WantAt.row {w1 w : World} {o : Nat → Option Role} {v : Value} {W : List BS} (h : WantAt w1 w o v W) (hb : Below w1.heap.size w1 w) : RowV w v W := by
  obtain ⟨vals, ho, hf, hv⟩ := h
  exact (hv.below hb).row ho
theorem LiesJ.grown {w wr w2 : World} {own : Nat → Option Role} {d J cnt kp : Nat} {s : DS} (h : LiesJ w wr own J d s cnt kp) {row : Option Nat} (hg : wr.grownBy w2 row) (hr : ∀ g, row = some g → w.heap.size ≤ g ∧ jo own J g = none) : LiesJ w w2 own J d s cnt kp := by
  obtain ⟨bn, bk, loc, hA⟩ := h.disk
  refine ⟨⟨bn, bk, loc, hA.grown hg fun c hc => (jo_none (hr c hc).2).1⟩, ⟨h.jrn.1.same (hg.block J h.jrn.1.lt fun e => ?_), h.jrn.2⟩, h.far, bl_grown h.below hg fun g hg => (hr g hg).1⟩
  exact jo_at own J (hr J e.symm).2
set_option maxHeartbeats 8000000 in
set_option maxRecDepth 40000 in
theorem room_walk (w : World) (room : Int) (A : Option Addr) (n c : Nat) (L : List BS) (h1 : -9223372036854775808 ≤ room) (h2 : room ≤ 9223372036854775807) (hl : L.length = n) (hr : RdC w A L) :
    Calls Tryz.prog 7 #[.int .i64 room, .slice A n c] w (Yes w) := by
  have hbr := bring_any room 301 w h1 h2 (by omega) (by omega)
  obtain ⟨r, hrr⟩ : ∃ r : Nat, (r : Int) = room % ((301 : Nat) : Int) := ⟨(room % ((301 : Nat) : Int)).toNat, Int.toNat_of_nonneg (Int.emod_nonneg _ (by omega))⟩
  have hr301 : r < 301 := by
    have := Int.emod_lt_of_pos room (show (0 : Int) < ((301 : Nat) : Int) by omega)
    omega
  rw [← hrr] at hbr
  have hso := some_any A n c L w hl hr
  obtain ⟨hs1, hs2⟩ := some_short L
  have hnew : ∀ w, _ := fun w => new_any w r (by omega)
  generalize someE L = l at hso hs1 hs2
  have hL20 : l.length ≤ 20 := hs1
  have HS2 := Lib.hid hs2
  obtain ⟨g1, g2, g3, g4⟩ := new_all r hr301
  clear hl hr hs1 hs2 hrr
  go_enter Tryz.func7, Tryz.ntmps7
  go_wp2_with (go_at_call 16; refine hbr.mono ?_; rintro e w ⟨rfl, rfl⟩)
  refine hso.mono ?_
  rintro e w1 ⟨v1, vals1, rfl, ho1, hv1, hb1⟩
  have hrow : RowV w1 v1 l := rowV_own ho1 hv1
  obtain ⟨A1, c1, rfl, hc1, hc1', hrd1⟩ := hrow
  clear ho1 hv1 hso hbr
  go_wp2_with fail
  refine (hnew w1).mono ?_
  rintro e w3 ⟨own0, d, rfl, hd0, hf0, hb0⟩
  clear hnew
  have hL0 : Lies w1 w3 own0 d (newE r) := ⟨hd0, hf0, hb0⟩
  clear hd0 hf0 hb0
  have r0 := run_new r
  have hop := lies_open hL0 r0 (by omega) (by omega) (by omega) [] g1
  have rO : Run (opnE (newE r)).1 4 0 r := run_opn r0
  go_wp2_with fail
  refine hop.mono ?_
  rintro e w4 ⟨J, v4, own4, rfl, hL4, _, hro4, _⟩
  obtain ⟨A4, c4, rfl, _⟩ := hro4
  have hL4' : LiesJ w1 w4 own4 J d (opnE (newE r)).1 0 0 := hL4
  clear hop hL0 r0 hL4 g1
  generalize (opnE (newE r)).1 = s0 at *
  obtain ⟨i0, hi, hz0, hz1, hz2⟩ := info_parts info_rows
  go_wp2_with fail
  go_loopw [11, 12, 13] (fun u v i wr => ∃ k : Nat, k ≤ l.length ∧ i = .int .i64 (k : Int) ∧ ∃ W own s, u = .int .i64 ((s.used : Nat) : Int) ∧ (∃ Av cv, v = .slice Av W.length cv) ∧ Hid (WantAt w1 wr (jo own J) v W) ∧ LiesJ w1 wr own J d s W.length 0 ∧ Run s (4 + k) (220 * k) r ∧ rdE s jn = some (catR 1 W) ∧ rdE s jx = none ∧ s.used = (catR 1 W).length ∧ W.length ≤ k ∧ Hid (∀ b ∈ W, List.length b ≤ 200)) (fun _ _ i _ => l.length - (intOf i).toNat)
  case atStart => exact ⟨0, Nat.zero_le _, rfl, [], own4, s0, by rw [g4]; rfl, ⟨none, 0, rfl⟩, ⟨[], World.ownsRow_nil _ _ _ _, (fun g h => by simp [Value.ownBlock] at h), rfl, fun j h => by simp at h⟩, hL4', rO, g2, g3, by rw [g4]; rfl, Nat.le_refl _, fun b h => by simp at h⟩
  case round =>
    clear hL4' rO g2 g3 g4
    obtain ⟨k, hk, rfl, W, own, s, rfl, ⟨Av, cv, rfl⟩, HW, hLk, hRk, hDk, hXk, hUk, hWk, HWs⟩ := hrel
    have hus := used_most hRk
    have hrm := hRk.room
    by_cases hlt : k < l.length
    · obtain ⟨ad, Ak, ck, rfl, hck1, hrk1⟩ := hrd1.at hlt
      have hck := (hLk.below.cell (World.block_lt_of_cell? w1 _ hck1)).trans hck1
      have hrk := hrk1.below hLk.below
      have h200 := HS2.out l[k] (List.getElem_mem hlt)
      have hor := app_or hRk.inv l[k] hDk
      have hmem : ∀ b ∈ W ++ [l[k]], List.length b ≤ 200 := fun b hb => by
        rcases List.mem_append.1 hb with h | h
        · exact HWs.out b h
        · rw [List.mem_singleton.1 h]; exact h200
      have HM := Lib.hid hmem
      clear hmem
      by_cases hfit : s.used + (l[k].length + 20) ≤ s.room
      · obtain ⟨z0, z1, z2, z3⟩ := hor.1 hfit
        have hap := lies_jappend hLk hRk (by omega) (by omega) (by omega) Ak l[k].length ck l[k] rfl hrk (by omega) (by omega) 0 (by rw [z0]; rfl)
        have hR2 := run_d hRk (x := ⟨0, jn, [], recE (W.length + 1) l[k]⟩) ⟨by show 7 ≤ 40; omega, by show 0 ≤ 40; omega⟩
        have hR3 := hR2.mono (k' := 4 + (k + 1)) (m' := 220 * (k + 1)) (by omega) (by show 220 * k + (recE (W.length + 1) l[k]).length ≤ _; rw [rec_len]; omega)
        rw [z0, if_pos rfl] at hap
        rw [hXk] at z3
        have z4 : (dE s ⟨0, jn, [], recE (W.length + 1) l[k]⟩).1.used = (catR 1 (W ++ [l[k]])).length := by rw [z2, cat_snoc_len, hUk]
        generalize (dE s ⟨0, jn, [], recE (W.length + 1) l[k]⟩).1 = S at *
        have HR3 := Lib.hid hR3
        have HZ1 := Lib.hid z1
        have HZ2 := Lib.hid z2
        have HZ3 := Lib.hid z3
        have HZ4 := Lib.hid z4
        rw [hrm] at hfit
        clear hR2 hR3 z0 z1 z2 z3 z4 hor hrk hLk hDk hRk hXk
        obtain ⟨U, hU⟩ : ∃ U, U = s.used := ⟨_, rfl⟩
        have HU := Lib.hid hU
        rw [← hU] at hfit hus ⊢
        clear hU hUk
        go_wp2_with fail
        refine hap.mono ?_
        rintro e w5 ⟨rfl, own5, hL5, hK5⟩
        have hck5 := (hL5.below.cell (World.block_lt_of_cell? w1 _ hck1)).trans hck1
        have hw5 := HW.out.kept hK5
        have hbk := broken_any hL5.jrn
        have HL5 := Lib.hid hL5
        have HW5 := Lib.hid hw5
        clear hap hL5 hK5 hck hw5 HW
        obtain ⟨vals, ho5, hf5, hv5⟩ := HW5.out
        have hvl5 := hv5.1
        have HF5 := Lib.hid hf5
        have HV5 := Lib.hid hv5
        clear hf5 hv5
        go_wp2_with (first | (go_at_call 34; refine hbk.mono ?_; rintro e w5 ⟨rfl, rfl⟩) | (at_builtin; refine wpList_append_own_at _ rfl _ _ 27 rfl w1.heap.size 22 i0 (.slice none 0 0) 1 24 Tryz.underlying27 hi hz0 hz1 hz2 rfl (by decide) _ W.length _ rfl (World.ownsRow.alloc ho5 _) ⟨w5.heap.size, 0, none⟩ 1 1 [.slice Ak l[k].length ck] rfl rfl (one_row _ _ _) (by simp [Value.oneCell']) (by simp only [maxLen]; omega) (by omega) (by have := HL5.out.below.size; simp; omega) ?_))
        have hf5 := HF5.out
        have hv5 := HV5.out
        intro v6 w6 ho6 hg6 hnn hw6
        obtain ⟨Av6, cv6, rfl⟩ := rowForm ho6
        have hal : Below w5.heap.size w5 (w5.alloc (.cells #[.slice Ak l[k].length ck] 22)) := (Below.refl _ _).alloc (Nat.le_refl _) _
        have hLa := HL5.out.on hal
        have hL6 := hLa.grown hg6 fun g hg => ⟨(ho5.lt g hg).1, hf5 g hg⟩
        have hnone : ∀ b, w5.heap.size ≤ b → jo own5 J b = none := fun b hb => jo_of (own_new HL5.out.disk hb) (by have := HL5.out.jrn.1.lt; omega)
        have hW6 : WantAt w1 w6 (jo own5 J) (.slice Av6 (W.length + 1) cv6) (W ++ [l[k]]) := by
          refine ⟨_, by rw [List.length_append, List.length_singleton]; exact ho6, fun g hg => ?_, by rw [List.length_append, List.length_append, hvl5]; rfl, fun q hq => ?_⟩
          · rcases hw6 with e | e
            · exact hf5 g (e.symm.trans hg)
            · rw [e] at hg
              cases hg
              exact hnone _ (by simp)
          · rw [List.length_append, List.length_singleton] at hq
            by_cases hql : q < W.length
            · obtain ⟨Aj, cj, h1, h2⟩ := hv5.2 q hql
              refine ⟨Aj, cj, ?_, ?_⟩
              · rw [List.getElem?_append_left (by omega), List.getElem_append_left hql]; exact h1
              · rw [List.getElem_append_left hql]; exact h2
            · have hqe : q = W.length := by omega
              subst hqe
              refine ⟨Ak, ck, ?_, ?_⟩
              · rw [List.getElem?_append_right (by omega), hvl5]; simp
              · simpa using hrk1
        have HL6 := Lib.hid hL6
        have HW6 := Lib.hid hW6
        clear hL6 hW6 ho6 hg6 hnn hw6 hal hLa hnone ho5 hf5 hv5
        go_wp2_with fail
        refine ⟨⟨k + 1, by omega, by go_num, W ++ [l[k]], own5, S, ?_, ⟨Av6, cv6, by simp⟩, HW6, ?_, HR3.out, HZ1.out, HZ3.out, HZ4.out, by simp; omega, HM⟩, by simp [intOf]; omega⟩
        · rw [HZ2.out, ← HU.out]; go_num
        · rw [List.length_append, List.length_singleton]; exact HL6.out
      · have z0 := hor.2 hfit
        have hap := lies_jappend hLk hRk (by omega) (by omega) (by omega) Ak l[k].length ck l[k] rfl hrk (by omega) (by omega) 52 (by rw [z0]; rfl)
        rw [z0] at hap
        simp only [Nat.succ_ne_zero, if_false, reduceIte] at hap
        have HRk := Lib.hid (hRk.mono (k' := 4 + (k + 1)) (m' := 220 * (k + 1)) (by omega) (by omega))
        have HDk := Lib.hid hDk
        have HXk := Lib.hid hXk
        have HUk := Lib.hid hUk
        rw [hrm] at hfit
        clear z0 hor hrk hLk hDk hRk hXk hUk
        obtain ⟨U, hU⟩ : ∃ U, U = s.used := ⟨_, rfl⟩
        have HU := Lib.hid hU
        rw [← hU] at hfit hus ⊢
        clear hU
        go_wp2_with fail
        refine hap.mono ?_
        rintro e w5 ⟨rfl, own5, hL5, hK5⟩
        have hck5 := (hL5.below.cell (World.block_lt_of_cell? w1 _ hck1)).trans hck1
        have hw5 := HW.out.kept hK5
        have hbk := broken_any hL5.jrn
        have HL5 := Lib.hid hL5
        have HW5 := Lib.hid hw5
        clear hap hL5 hK5 hck hw5 HW
        go_wp2_with (go_at_call 34; refine hbk.mono ?_; rintro e w5 ⟨rfl, rfl⟩)
        exact ⟨⟨k + 1, by omega, by go_num, W, own5, s, by rw [HU.out], ⟨Av, cv, rfl⟩, HW5, HL5.out, HRk.out, HDk.out, HXk.out, HUk.out, by omega, HWs⟩, by simp [intOf]; omega⟩
    · have hkN : k = l.length := by omega
      subst hkN
      clear hlt hk
      have hrow := HW.out.row hLk.below
      obtain ⟨A5, c5, e5, _, _, hrd5⟩ := hrow
      simp only [Value.slice.injEq] at e5
      obtain ⟨rfl, _, rfl⟩ := e5
      have hsh : short W := fun b hb => by have := HWs.out b hb; omega
      have hcl := cat_le (by omega : W.length ≤ 20) HWs.out
      obtain ⟨z, S, cc, kk, hch, hz, hRS, hDS⟩ : ∃ z S cc kk, Calls Tryz.prog 31 #[.pointer (some ⟨J, 0, none⟩), .slice Av W.length cv] wr (fun e w' => e = .returned (.int .i64 z) ∧ ∃ own2, LiesJ w1 w' own2 J d S cc kk ∧ Kept wr w' (jo own J) (jo own2 J)) ∧ ((z = 0 ∧ 2 * s.used ≤ r) ∨ (z = 52 ∧ ¬ 2 * s.used ≤ r)) ∧ Run S (8 + l.length) (220 * l.length + 4400) r ∧ rdE S jn = some (catR 1 W) := by
        by_cases hroom : s.used + (catR 1 W).length ≤ s.room
        · obtain ⟨_, _, _, _, _, _, hR4, hD4, hX4⟩ := ck_all hRk hXk hroom
          have hck := ck_ok hroom
          exact ⟨0, _, _, _, lies_check hLk hRk (by omega) (by omega) (by omega) hXk Av W.length cv W rfl hrd5 (by omega) (fun b hb => by have := HWs.out b hb; omega) 0 (ck4 s (catR 1 W)) W.length W.length (by rw [hck]; rfl) (by rw [hck]) (by rw [hck]; rfl) (by rw [hck]; rfl), .inl ⟨rfl, by omega⟩, hR4.mono (by omega) (by omega), hD4⟩
        · have hck := ck_no hroom
          exact ⟨52, _, _, _, lies_check hLk hRk (by omega) (by omega) (by omega) hXk Av W.length cv W rfl hrd5 (by omega) (fun b hb => by have := HWs.out b hb; omega) 52 s W.length 0 (by rw [hck]; rfl) (by rw [hck]) (by rw [hck]; rfl) (by rw [hck]; rfl), .inr ⟨rfl, by omega⟩, hRk.mono (by omega) (by omega), hDk⟩
      have hop := opn_rd hRS.inv hDS (recs_cat hsh)
      have HOP := Lib.hid hop
      have HRS := Lib.hid hRS
      obtain ⟨U, hU⟩ : ∃ U, U = s.used := ⟨_, rfl⟩
      rw [← hU] at hz hus ⊢
      clear hrd5 hop hRS hDS hLk hRk hDk hXk hUk hU hcl hsh
      rcases hz with ⟨rfl, hz⟩ | ⟨rfl, hz⟩
      all_goals
        go_wp2_with fail
        refine hch.mono ?_
        rintro e w6 ⟨rfl, own6, hL6, hK6⟩
        have hw6 := (HW.out.kept hK6).less fun g hg => (jo_none hg).1
        have hopn := lies_open hL6.lies HRS.out (by omega) (by omega) (by omega) W HOP.out.1
        have HL6 := Lib.hid hL6
        have HW6 := Lib.hid hw6
        clear hch hL6 hK6 hw6
        go_wp2_with fail
        refine hopn.mono ?_
        rintro e w9 ⟨J9, v9, own9, rfl, hL9, hK9, hro9, _⟩
        obtain ⟨A9, c9, rfl, _, _, hrd9⟩ := RowV.of hro9
        obtain ⟨A8, c8, e8, _, _, hrd8⟩ := (HW6.out.kept hK9).row hL9.below
        simp only [Value.slice.injEq] at e8
        obtain ⟨rfl, _, rfl⟩ := e8
        have hB9 := hL9.below
        have hsm := sameT_any A9 Av W.length c9 cv W w9 rfl hrd9 hrd8 (by omega)
        clear hopn hK9 hro9 hrd9 hrd8 hL9
        go_wp2_with fail
        refine hsm.mono ?_
        rintro e w11 ⟨rfl, hb11⟩
        go_wp2_with fail
        refine (jawake_any _).mono ?_
        rintro e w13 ⟨rfl, hb13⟩
        go_wp2_with fail
        go_ret
        exact ⟨rfl, bl_trans (bl_trans (bl_trans hb1 hB9) hb11) hb13⟩
set_option maxRecDepth 100000 in
theorem JournalRoom_holds : Rows.JournalRoomSaid :=
  OpenClaim.holds_of_wide 7 Tryz.f7 rfl rfl rfl rfl rfl rfl rfl ⟨rfl, rfl, rfl, rfl, rfl⟩ rfl rfl rfl rfl rfl (by kernel_rfl) Tryz.func7 (by kernel_rfl)
    (of_decide_eq_true (by kernel_rfl)) (by unfold Func.isWrapper; first | (rw [if_pos (by decide +kernel)]; kernel_rfl) | (rw [if_neg (by decide +kernel)]; exact ⟨rfl, rfl⟩))
    (fun os started H enc _ => law_lifted (s := Rows.journalRoomSpec) Tryz.func7 (by kernel_rfl) rfl
      (fun H ds h => by rw [Tryz.params7] at h; match ds, h with | [_, _], _ => rfl) (by kernel_rfl) (by kernel_rfl)
      os started H enc
      (ChangeSpec.witness6 (enc := enc) (C := Tryz.checked) false ⟨#[], #[.int .i64 0, .slice none 0 0], []⟩ 8 (by kernel_rfl) (by kernel_rfl) (by kernel_rfl) (by kernel_rfl))
      (fun W args ds p h => by
        obtain ⟨⟨base, hok⟩, hA, hl⟩ := h
        rw [Tryz.params7] at hok hA hl
        obtain ⟨v0, v1, d0, d1, p0, p1, rfl, rfl, rfl, g0, g1⟩ := trodAll_two hA
        obtain ⟨n0, rfl, a0, b0⟩ := open_i64 (hok 0 3 v0 rfl rfl) g0
        obtain ⟨A1, n1, c1, l1, rfl, e1, a1, b1, r1⟩ := open_lists (hok 1 27 v1 rfl rfl) g1
        exact room_walk W n0 A1 n1 c1 l1 a0 b0 e1 r1))

end Go.Proofs.YtdgaipdpebinbaaGreat
