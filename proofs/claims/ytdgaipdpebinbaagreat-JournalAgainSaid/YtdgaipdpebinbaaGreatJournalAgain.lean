/- A journal that is opened tells its records; opened anew at once it tells the same; a checkpoint's records are those that it was handed, and records go on behind them: JournalAgain, of all two lists of bytes. No condition. -/
import Derived.Test.YtdgaipdpebinbaaGreatJoLc
set_option linter.unusedVariables false
set_option linter.unusedSimpArgs false
namespace Go.Proofs.YtdgaipdpebinbaaGreat
open Go.RowKit Go.Maps Go.Shelf Go.Sort Go.ChangeShapes Go.WideShapes Go.ChangeAt

set_option maxHeartbeats 8000000 in
set_option maxRecDepth 40000 in
theorem again_walk (w : World) (A : Option Addr) (n c : Nat) (L : List BS) (A' : Option Addr) (n' c' : Nat) (L' : List BS) (hl : L.length = n) (hr : RdC w A L) (hl' : L'.length = n') (hr' : RdC w A' L') :
    Calls Tryz.prog 6 #[.slice A n c, .slice A' n' c'] w (Yes w) := by
  have hso := some_any A n c L w hl hr
  have hso' := fun w2 (hb : Below w.heap.size w w2) => some_any A' n' c' L' w2 hl' (hr'.below hb)
  obtain ⟨hs1, hs2⟩ := some_short L
  obtain ⟨hs1', hs2'⟩ := some_short L'
  have hnew : ∀ w, _ := fun w => new_any w 1048576 (by omega)
  generalize someE L = l at hso hs1 hs2
  generalize someE L' = m at hso' hs1' hs2'
  have hL20 : l.length ≤ 20 := hs1
  have hM20 : m.length ≤ 20 := hs1'
  have hcl := cat_le hs1 hs2
  have HS2 := Lib.hid hs2
  have HS2' := Lib.hid hs2'
  have HSO := Lib.hid hso'
  have HCL := Lib.hid hcl
  clear hl hr hl' hr' hs1 hs2 hs1' hs2' hso' hcl
  go_enter Tryz.func6, Tryz.ntmps6
  go_wp2_with fail
  refine hso.mono ?_
  rintro e w1 ⟨v1, vals1, rfl, ho1, hv1, hb1⟩
  have hrow : RowV w1 v1 l := rowV_own ho1 hv1
  obtain ⟨A1, c1, rfl, hc1, hc1', hrd1⟩ := hrow
  clear ho1 hv1 hso
  go_wp2_with fail
  refine (HSO.out w1 hb1).mono ?_
  rintro e w2 ⟨v2, vals2, rfl, ho2, hv2, hb2⟩
  have hrow2 : RowV w2 v2 m := rowV_own ho2 hv2
  obtain ⟨A2, c2, rfl, hc2, hc2', hrd2⟩ := hrow2
  have hrd1' := hrd1.below hb2
  have hbw2 := bl_trans hb1 hb2
  clear ho2 hv2 HSO hrd1
  go_wp2_with fail
  refine (hnew w2).mono ?_
  rintro e w3 ⟨own0, d, rfl, hd0, hf0, hb0⟩
  clear hnew
  have hL0 : Lies w2 w3 own0 d (newE 1048576) := ⟨hd0, hf0, hb0⟩
  clear hd0 hf0 hb0
  have r0 := run_new 1048576
  have hop := lies_open hL0 r0 (by omega) (by omega) (by omega) [] ch_new.1
  have rO : Run (opnE (newE 1048576)).1 4 0 1048576 := run_opn r0
  have dO := ch_new.2
  have xO := new_jx
  go_wp2_with fail
  refine hop.mono ?_
  rintro e w4 ⟨J, v4, own4, rfl, hL4, _, hro4, _⟩
  obtain ⟨A4, c4, rfl, _⟩ := hro4
  have hL4' : LiesJ w2 w4 own4 J d (opnE (newE 1048576)).1 0 0 := hL4
  clear hop hL0 r0 hL4
  generalize (opnE (newE 1048576)).1 = s0 at *
  go_wp2_with fail
  go_loopw [10] (fun i wr => ∃ k : Nat, k ≤ m.length ∧ i = .int .i64 (k : Int) ∧ ∃ own s, LiesJ w2 wr own J d s k 0 ∧ Run s (4 + k) (220 * k) 1048576 ∧ rdE s jn = some (catR 1 (m.take k)) ∧ rdE s jx = none) (fun i _ => m.length - (intOf i).toNat)
  case atStart => exact ⟨0, Nat.zero_le _, rfl, own4, s0, hL4', rO, dO, xO⟩
  case round =>
    clear hL4' rO dO xO
    obtain ⟨k, hk, rfl, own, s, hLk, hRk, hDk, hXk⟩ := hrel
    by_cases hlt : k < m.length
    · obtain ⟨ad, Ak, ck, rfl, hck, hrk⟩ := (hrd2.below hLk.below).at hlt
      have h200 := HS2'.out m[k] (List.getElem_mem hlt)
      have htl : (m.take k).length = k := by rw [List.length_take]; omega
      obtain ⟨z0, z1⟩ := app_rd hRk m[k] hDk (by omega)
      have z2 := app_more hRk m[k] hDk (by omega)
      rw [htl] at z0 z1 z2
      have hap := lies_jappend hLk hRk (by omega) (by omega) (by omega) Ak m[k].length ck m[k] rfl hrk (by omega) (by omega) 0 (by rw [z0]; rfl)
      have hR2 := run_d hRk (x := ⟨0, jn, [], recE (k + 1) m[k]⟩) ⟨by show 7 ≤ 40; omega, by show 0 ≤ 40; omega⟩
      have hR3 := hR2.mono (k' := 4 + (k + 1)) (m' := 220 * (k + 1)) (by omega) (by show 220 * k + (recE (k + 1) m[k]).length ≤ _; rw [rec_len]; omega)
      have hcat : m.take k ++ [m[k]] = m.take (k + 1) := (List.take_succ_eq_append_getElem hlt).symm
      rw [hcat] at z1
      rw [hXk] at z2
      rw [z0, if_pos rfl] at hap
      have HR3 := Lib.hid hR3
      have HZ1 := Lib.hid z1
      have HZ2 := Lib.hid z2
      clear hR2 hR3 z0 z1 z2 hcat hrk hLk hDk hRk hXk htl
      go_wp2_with fail
      refine hap.mono ?_
      rintro e w5 ⟨rfl, own5, hL5, _⟩
      have HL5 := Lib.hid hL5
      clear hap hL5
      go_wp2_with fail
      exact ⟨⟨k + 1, by omega, by go_num, own5, _, HL5.out, HR3.out, HZ1.out, HZ2.out⟩, by simp [intOf]; omega⟩
    · have hkN : k = m.length := by omega
      subst hkN
      have hus := used_most hRk
      have hroom : s.used + (catR 1 l).length ≤ s.room := by rw [hRk.room]; have := HCL.out; omega
      have hck := ck_ok hroom
      have hcall := ck_all hRk hXk hroom
      obtain ⟨_, _, _, _, _, _, hR4, hD4, hX4⟩ := hcall
      have hch := lies_check hLk hRk (by omega) (by omega) (by omega) hXk A1 l.length c1 l rfl (hrd1'.below hLk.below) (by omega) (fun b hb => by have := HS2.out b hb; omega) 0 (ck4 s (catR 1 l)) l.length l.length (by rw [hck]; rfl) (by rw [hck]) (by rw [hck]; rfl) (by rw [hck]; rfl)
      have HR4 := Lib.hid (hR4.mono (k' := 8 + m.length) (m' := 220 * m.length + 4400) (by omega) (by have := HCL.out; omega))
      have HD4 := Lib.hid hD4
      have HX4 := Lib.hid hX4
      clear hlt hk hus hroom hck hR4 hD4 hX4 hLk hRk hDk hXk
      go_wp2_with fail
      refine hch.mono ?_
      rintro e w6 ⟨rfl, own6, hL6, _⟩
      clear hch
      obtain ⟨S, hS⟩ : ∃ S, S = ck4 s (catR 1 l) := ⟨_, rfl⟩
      have hR6 : Run S (8 + m.length) (220 * m.length + 4400) 1048576 := by rw [hS]; exact HR4.out
      have hD6 : rdE S jn = some (catR 1 l) := by rw [hS]; exact HD4.out
      rw [← hS] at hL6
      clear hS HR4 HD4 HX4
      have hle := len_any hL6.jrn
      have hke := kept_any hL6.jrn
      go_wp2_with (first | (go_at_call 32; refine hle.mono ?_; rintro e w6 ⟨rfl, rfl⟩) | (go_at_call 33; refine hke.mono ?_; rintro e w6 ⟨rfl, rfl⟩) | fail)
      clear hle hke
      go_loopw [12] (fun i wr => ∃ k : Nat, k ≤ m.length ∧ i = .int .i64 (k : Int) ∧ ∃ own s, LiesJ w2 wr own J d s (l.length + k) l.length ∧ Run s (8 + m.length + k) (220 * m.length + 4400 + 220 * k) 1048576 ∧ rdE s jn = some (catR 1 (l ++ m.take k))) (fun i _ => m.length - (intOf i).toNat)
      case atStart => exact ⟨0, Nat.zero_le _, rfl, own6, S, hL6, hR6, by rw [List.take_zero, List.append_nil]; exact hD6⟩
      case round =>
        clear hL6 hR6 hD6
        obtain ⟨k, hk, rfl, own, s, hLk, hRk, hDk⟩ := hrel
        by_cases hlt : k < m.length
        · obtain ⟨ad, Ak, ck, rfl, hck, hrk⟩ := (hrd2.below hLk.below).at hlt
          have h200 := HS2'.out m[k] (List.getElem_mem hlt)
          have htl : (l ++ m.take k).length = l.length + k := by rw [List.length_append, List.length_take]; omega
          obtain ⟨z0, z1⟩ := app_rd hRk m[k] hDk (by omega)
          rw [htl] at z0 z1
          have hap := lies_jappend hLk hRk (by omega) (by omega) (by omega) Ak m[k].length ck m[k] rfl hrk (by omega) (by omega) 0 (by rw [z0]; rfl)
          have hR2 := run_d hRk (x := ⟨0, jn, [], recE (l.length + k + 1) m[k]⟩) ⟨by show 7 ≤ 40; omega, by show 0 ≤ 40; omega⟩
          have hR3 := hR2.mono (k' := 8 + m.length + (k + 1)) (m' := 220 * m.length + 4400 + 220 * (k + 1)) (by omega) (by show 220 * m.length + 4400 + 220 * k + (recE (l.length + k + 1) m[k]).length ≤ _; rw [rec_len]; omega)
          have hcat : l ++ m.take k ++ [m[k]] = l ++ m.take (k + 1) := by rw [List.append_assoc, ← List.take_succ_eq_append_getElem hlt]
          rw [hcat] at z1
          rw [z0, if_pos rfl] at hap
          have HR3 := Lib.hid hR3
          have HZ1 := Lib.hid z1
          clear hR2 hR3 z0 z1 hcat hrk hLk hDk hRk htl
          go_wp2_with fail
          refine hap.mono ?_
          rintro e w7 ⟨rfl, own7, hL7, _⟩
          have hle := len_any hL7.jrn
          have hke := kept_any hL7.jrn
          have ec : (((l.length + k + 1 : Nat)) : Int) = (l.length : Int) + (k : Int) + 1 := by omega
          rw [ec] at hle
          have HL7 := Lib.hid hL7
          clear hap hL7 ec
          go_wp2_with (first | (go_at_call 32; refine hle.mono ?_; rintro e w7 ⟨rfl, rfl⟩) | (go_at_call 33; refine hke.mono ?_; rintro e w7 ⟨rfl, rfl⟩) | fail)
          exact ⟨⟨k + 1, by omega, by go_num, own7, _, HL7.out, HR3.out, HZ1.out⟩, by simp [intOf]; omega⟩
        · have hkN : k = m.length := by omega
          subst hkN
          rw [List.take_length] at hDk
          clear hlt hk
          obtain ⟨vl, hvl, hcl1, hol⟩ := rdL_vals hrd1'
          obtain ⟨vm, hvm, hcm1, hom⟩ := rdL_vals hrd2
          have hll := hvl.1
          have hlm := hvm.1
          have hN : ∀ b, wr.heap.size ≤ b → own b = none := fun b hb => own_new hLk.disk hb
          have hvl2 := hvl.free hLk.lies
          have hvm2 := hvm.free hLk.lies
          have hval := hvl2.app hvm2
          have hshort := short_app HS2.out HS2'.out
          have hsum : (l ++ m).length = l.length + m.length := List.length_append
          have hop := (opn_rd hRk.inv hDk (recs_cat hshort))
          have hR9 := run_opn hRk
          have hop2 := opn_rd hR9.inv hop.2 (recs_cat hshort)
          have HVAL := Lib.hid hval
          have HOP := Lib.hid hop
          have HOP2 := Lib.hid hop2
          have HR9 := Lib.hid hR9
          have HRk := Lib.hid hRk
          have HLk := Lib.hid hLk
          have HN := Lib.hid hN
          have cl : 0 < l.length → ∃ ad, A1 = some ad ∧ ∀ j u, vl[j]? = some u → wr.cell? (ad.add j) = some u := fun h0 => by
            obtain ⟨ad, e, hc⟩ := hcl1 h0
            exact ⟨ad, e, fun j u hu => (hLk.below.cell (World.block_lt_of_cell? w2 _ (hc j u hu))).trans (hc j u hu)⟩
          have cm : ∀ w9, Below wr.heap.size wr w9 → 0 < m.length → ∃ ad, A2 = some ad ∧ ∀ j u, vm[j]? = some u → w9.cell? (ad.add j) = some u := fun w9 hb9 h0 => by
            obtain ⟨ad, e, hc⟩ := hcm1 h0
            have hb := hLk.below.trans (hb9.mono hLk.below.size)
            exact ⟨ad, e, fun j u hu => (hb.cell (World.block_lt_of_cell? w2 _ (hc j u hu))).trans (hc j u hu)⟩
          have CL := Lib.hid cl
          have CM := Lib.hid cm
          clear hvl hvm hcl1 hcm1 hN hvl2 hvm2 hval hop hop2 hR9 hRk hDk hLk cl cm hsum
          go_wp2_with (at_builtin; refine wpList_append_rows _ rfl _ _ rfl wr.heap.size (.slice none 0 0) 0 [] rfl (World.ownsRow_nil _ _ _ _) A1 l.length c1 vl rfl hll CL.out hol (by omega) (Nat.le_refl _) ?_)
          intro v7 w7 ho7 hg7
          have hb7 : Below wr.heap.size wr w7 := bl_grown (Below.refl _ _) hg7 (fun g hg => by simp [Value.ownBlock] at hg)
          have hsz7 := hb7.size
          have HO7 := Lib.hid ho7
          have HB7 := Lib.hid hb7
          clear hg7 ho7
          go_wp2_with (at_builtin; refine wpList_append_rows _ rfl _ _ rfl wr.heap.size v7 l.length vl rfl HO7.out A2 m.length c2 vm rfl hlm (CM.out _ HB7.out) hom (by omega) hsz7 ?_)
          intro v8 w8 ho8 hg8
          have hb8 : Below wr.heap.size wr w8 := bl_grown hb7 hg8 (fun g hg => (HO7.out.lt g hg).1)
          have hL8 := HLk.out.on hb8
          have hv8 : ValO w8 own (vl ++ vm) (l ++ m) := by
            refine ⟨HVAL.out.1, fun j hj => ?_⟩
            obtain ⟨Aj, cj, g1, g2⟩ := HVAL.out.2 j hj
            exact ⟨Aj, cj, g1, g2.kept (Kept.of_below hb8 own)⟩
          obtain ⟨A8, c8, rfl, hro8⟩ := rowO_of ho8 (l := l ++ m) (by rw [List.length_append]) hv8 HN.out
          have hopn := lies_open hL8.lies HRk.out (by omega) (by omega) (by omega) (l ++ m) HOP.out.1
          have HRO8 := Lib.hid hro8
          clear ho8 hg8 hv8 hL8 hb7 hb8 HO7 HB7 hro8 hol hom
          go_wp2_with fail
          refine hopn.mono ?_
          rintro e w9 ⟨J9, v9, own9, rfl, hL9, hK9, hro9, _⟩
          obtain ⟨A9, c9, rfl, _, _, hrd9⟩ := RowV.of hro9
          have hrw9 := HRO8.out.kept hK9
          have hopn2 := lies_open hL9.lies HR9.out (by omega) (by omega) (by omega) (l ++ m) HOP2.out.1
          have HR9r := Lib.hid hro9
          have HRW9 := Lib.hid hrw9
          have HL9 := Lib.hid hL9
          clear hopn hK9 hro9 hrw9 hL9
          go_wp2_with fail
          refine hopn2.mono ?_
          rintro e w10 ⟨J10, v10, own10, rfl, hL10, hK10, hro10, _⟩
          obtain ⟨A10, c10, rfl, _, _, hrd10⟩ := RowV.of hro10
          have hrw10 := HRW9.out.kept hK10
          have hJ10 := HL9.out.jrn.kept hK10
          obtain ⟨A9', c9', e9, _, _, hrd9'⟩ := RowV.of (HR9r.out.kept hK10)
          simp only [Value.slice.injEq] at e9
          obtain ⟨rfl, _, rfl⟩ := e9
          have hll2 : (l ++ m).length = l.length + m.length := List.length_append
          have hsm1 := sameT_any A9 A8 (l.length + m.length) c9 c8 (l ++ m) w10 hll2 hrd9' hrw10.rd (by omega)
          have hB10 := hL10.below
          have HRW10 := Lib.hid hrw10
          have HJ10 := Lib.hid hJ10
          clear hopn2 hro10 hrw10 hJ10 hK10 hrd9 hL10
          go_wp2_with fail
          refine hsm1.mono ?_
          rintro e w11 ⟨rfl, hb11⟩
          have hsm2 := sameT_any A10 A8 (l.length + m.length) c10 c8 (l ++ m) w11 hll2 (hrd10.below hb11) (HRW10.out.rd.below hb11) (by omega)
          clear hsm1
          go_wp2_with fail
          refine hsm2.mono ?_
          rintro e w12 ⟨rfl, hb12⟩
          have hJ12 := (HJ10.out.kept (Kept.of_below hb11 own10)).kept (Kept.of_below hb12 own10)
          have hle := len_any hJ12
          have hke := kept_any hJ12
          rw [hll2] at hle hke
          clear hsm2
          go_wp2_with (first | (go_at_call 32; refine hle.mono ?_; rintro e w12 ⟨rfl, rfl⟩) | (go_at_call 33; refine hke.mono ?_; rintro e w12 ⟨rfl, rfl⟩) | fail)
          refine (jawake_any _).mono ?_
          rintro e w13 ⟨rfl, hb13⟩
          go_wp2_with fail
          go_ret
          exact ⟨rfl, bl_trans (bl_trans (bl_trans (bl_trans hbw2 hB10) hb11) hb12) hb13⟩
set_option maxRecDepth 100000 in
theorem JournalAgain_holds : Rows.JournalAgainSaid :=
  OpenClaim.holds_of_wide 6 Tryz.f6 rfl rfl rfl rfl rfl rfl rfl ⟨rfl, rfl, rfl, rfl, rfl⟩ rfl rfl rfl rfl rfl (by kernel_rfl) Tryz.func6 (by kernel_rfl)
    (of_decide_eq_true (by kernel_rfl)) (by unfold Func.isWrapper; first | (rw [if_pos (by decide +kernel)]; kernel_rfl) | (rw [if_neg (by decide +kernel)]; exact ⟨rfl, rfl⟩))
    (fun os started H enc _ => law_lifted (s := Rows.journalAgainSpec) Tryz.func6 (by kernel_rfl) rfl
      (fun H ds h => by rw [Tryz.params6] at h; match ds, h with | [_, _], _ => rfl) (by kernel_rfl) (by kernel_rfl)
      os started H enc
      (ChangeSpec.witness6 (enc := enc) (C := Tryz.checked) false ⟨#[], #[.slice none 0 0, .slice none 0 0], []⟩ 8 (by kernel_rfl) (by kernel_rfl) (by kernel_rfl) (by kernel_rfl))
      (fun W args ds p h => by
        obtain ⟨⟨base, hok⟩, hA, hl⟩ := h
        rw [Tryz.params6] at hok hA hl
        obtain ⟨v0, v1, d0, d1, p0, p1, rfl, rfl, rfl, g0, g1⟩ := trodAll_two hA
        obtain ⟨A0, n0, c0, l0, rfl, e0, a0, b0, r0⟩ := open_lists (hok 0 27 v0 rfl rfl) g0
        obtain ⟨A1, n1, c1, l1, rfl, e1, a1, b1, r1⟩ := open_lists (hok 1 27 v1 rfl rfl) g1
        exact again_walk W A0 n0 c0 l0 A1 n1 c1 l1 e0 r0 e1 r1))

end Go.Proofs.YtdgaipdpebinbaaGreat
