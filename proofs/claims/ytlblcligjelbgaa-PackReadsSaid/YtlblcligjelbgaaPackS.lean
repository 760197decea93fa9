/- The document's Unpack: a contract over the translated program. -/
import Derived.Test.YtlblcligjelbgaaPackR
set_option linter.unusedVariables false
namespace Go.Proofs.Ytlblcligjelbgaa
open Go.RowKit

theorem seal_iff (l : List UInt8) (k : Nat) : sealE (l.take k) = l ↔ l.drop k = fourE (ofE (l.take k)) := by
  constructor
  · intro h
    have h2 : sealE (l.take k) = l.take k ++ l.drop k := by rw [h, List.take_append_drop]
    unfold sealE at h2
    exact (List.append_cancel_left h2).symm
  · intro h
    unfold sealE
    rw [← h, List.take_append_drop]
def sliceLen : Value → Nat
  | .slice _ n _ => n
  | _ => 0

set_option maxHeartbeats 2000000 in
set_option maxRecDepth 20000 in
theorem refUnpack_any (A : Option Addr) (n c : Nat) (l : List UInt8) (w : World) (hl : l.length = n) (hr : Rd w A l) (hnc : n ≤ c) (hc : c ≤ maxLen) :
    Calls Try.prog 24 #[.slice A n c] w (GotPack w (unpackE l).1 (unpackE l).2.1 (unpackE l).2.2) := by
  have HL := Lib.hid hl
  have HU : Hid (unpackE l = _) := Lib.hid (unpackE.eq_1 l)
  rw [hl] at HU
  clear hl
  have HZ := Lib.hid (refSize_any A n c l w HL.out hr hnc hc)
  have hsf := size_facts l
  generalize sizeE l = zz at *
  obtain ⟨z, er⟩ := zz
  dsimp only at HU HZ hsf
  unfold maxLen at hc
  rcases hsf with ⟨rfl, hz1, hz2⟩ | ⟨rfl, he1, he2⟩
  · rw [if_neg (by simp)] at HU
    by_cases h1 : n < z
    · rw [if_pos h1] at HU
      go_enter Try.func24, Try.ntmps24
      go_wp2_with fail
      refine (HZ.out).mono ?_
      rintro e w1 ⟨rfl, hb1⟩
      go_wp2_with fail
      go_ret3
      rw [HU.out]
      exact ⟨_, [], rfl, OwnS.nil _ _, rfl, hb1⟩
    · rw [if_neg h1] at HU
      by_cases h2 : z < n
      · rw [if_pos h2] at HU
        go_enter Try.func24, Try.ntmps24
        go_wp2_with fail
        refine (HZ.out).mono ?_
        rintro e w1 ⟨rfl, hb1⟩
        go_wp2_with fail
        go_ret3
        rw [HU.out]
        exact ⟨_, [], rfl, OwnS.nil _ _, rfl, hb1⟩
      · rw [if_neg h2] at HU
        obtain rfl : z = n := by omega
        have HLt : Hid ((l.take (z - 4)).length = z - 4) := by unfold Hid; rw [List.length_take, HL.out]; omega
        have hcut : ∀ W : World, (Instr.slice 24 (.slice A z c) none (some (.int .i64 ((z : Int) - 4))) none).run Try.prog W = .ok (.slice A (z - 4) c) W := fun W => by
          obtain ⟨i, hi, _, hs1, _⟩ := info_parts info_u8
          have he : Try.prog.elem 24 = 5 := by kernel_rfl
          rw [run_slice_h W 24 A z c (by rw [he]; exact Try.underlying24) .i64 ((z : Int) - 4) (by omega) (by omega)]
          have e : ((z : Int) - 4).toNat = z - 4 := by omega
          simp [sizeOf, typeInfo, he, hi, hs1, sliced, Result.andThen, e]
          intro _
          cases A <;> simp [Addr.add]
        obtain ⟨A4, hcut4, hr4⟩ := cut_from A z c (z - 4) l w HL.out hr (by omega) hnc
        have HL4 : Hid ((l.drop (z - 4)).length = 4) := by unfold Hid; rw [List.length_drop, HL.out]; omega
        rw [show ((z - 4 : Nat) : Int) = (z : Int) - 4 by omega, show z - (z - 4) = 4 by omega] at hcut4
        have hw4 : IntKind.i64.wrap ((z : Int) - 4) = (z : Int) - 4 := by rw [IntKind.wrap_i64]; omega
        have hwx : IntKind.i64.wrap ((ofE (l.take (z - 4))).toNat : Int) = ((ofE (l.take (z - 4))).toNat : Int) := by have := (ofE (l.take (z - 4))).isLt; rw [IntKind.wrap_i64]; omega
        have HIF := Lib.hid (seal_iff l (z - 4))
        have hd : Below w.heap.size w w.drew := Below.drew (Below.refl _ _)
        by_cases h3 : sealE (l.take (z - 4)) = l
        · have HB := Lib.hid (show decide (l.drop (z - 4) = fourE (ofE (l.take (z - 4)))) = true by simpa using HIF.out.1 h3)
          rw [if_neg (by simpa using h3)] at HU
          have H3 := Lib.hid h3
          clear h3
          obtain ⟨A7, hcut7, hr7, HL7⟩ := cut_mid A z c 7 (z - 4 - 7) l w HL.out hr (by omega) hnc 7 ((z : Int) - 4) rfl (by omega)
          rw [show 7 + (z - 4 - 7) = z - 4 by omega] at hr7 HL7
          obtain ⟨ad, rfl, hc6⟩ := hr.cell (k := 6) (by have := HL.out; omega)
          have H6 : Hid (l.getD 6 0 = l[6]'(by have := HL.out; omega)) := getD_of _
          have hb6 : (l[6]'(by have := HL.out; omega)).toNat < 256 := UInt8.toNat_lt _
          have HXE : Hid (secsE 0 ((l.take (z - 4)).drop 7) = secsE 0 ((l.take (z - 4)).drop 7)) := rfl
          generalize hq : (l.take (z - 4)).drop 7 = q at *
          clear hq
          obtain ⟨i0, hi, hi0, hi1, hi2⟩ := info_parts info_sec
          go_enter Try.func24, Try.ntmps24
          go_wp2_with fail
          refine (HZ.out).mono ?_
          rintro e w1 ⟨rfl, hb1⟩
          have hd1 : Below w.heap.size w w1.drew := bl_trans hb1 (Below.drew (Below.refl _ _))
          go_wp2_with fail
          go_region_with (first
            | (go_at_call 35; (with_reducible refine (refOf_any (some ad) (z - 4) c (l.take (z - 4)) _ HLt.out ((hr.take _).below hd1) (by simp only [maxLen]; omega)).mono ?_); rintro e w2 ⟨rfl, rfl⟩)
            | (go_at_call 34; (with_reducible refine (refFour_any (ofE (l.take (z - 4))) _).mono ?_); rintro e w3 ⟨v3, rfl, ho3, hb3⟩; obtain ⟨A3, n3, c3, rfl, HL3, _, hc3, hr3⟩ := ho3.form)
            | (go_at_call 16; (with_reducible refine (eq_is (b := true) HL4.out HL3.out (hr4.below (bl_trans hd1 hb3)) hr3 (by simp [maxLen]) (by omega) HB.out).mono ?_); rintro e w4 ⟨rfl, hb4⟩))
          have hB4 := bl_trans (bl_trans hd1 hb3) hb4
          clear hb3 hb4 hd1 hr3 ho3 hcut hcut4 hr4 HZ hb1
          go_wp2_with fail
          refine (copy_any A7 (z - 4 - 7) (c - 7) q _ HL7.out (hr7.below hB4) (by omega)).mono ?_
          rintro e w5 ⟨v5, rfl, ho5, g5⟩
          obtain ⟨A5, n5, c5, rfl, HL5, hnc5, hc5, _⟩ := ho5.form
          have hB5 := bl_trans hB4 g5
          have hs4 := hB4.size
          have ho5' := ho5.more hs4
          have hn5 : n5 ≤ z := by have := HL5.out; have := HL7.out; omega
          clear ho5 g5 hcut7 hr7
          go_wp2_with fail
          go_loopw [7, 8, 9] (fun v last lf wr => ∃ (rs : List Row) (la : Int) (A' : Option Addr) (n' c' : Nat) (left : List UInt8), last = .int .i64 la ∧ OwnS wr w.heap.size v rs ∧ lf = .slice A' n' c' ∧ Own wr w.heap.size (.slice A' n' c') left ∧ Hid (secsE 0 q = (secsE la left).map (rowsOf rs ++ ·)) ∧ rs.length + n' ≤ z ∧ Below w.heap.size w wr)
            (fun _ _ lf _ => sliceLen lf)
          case atStart =>
            refine ⟨[], 0, A5, n5, c5, q, rfl, OwnS.nil _ _, rfl, ho5', ?_, by simpa using hn5, hB5⟩
            unfold Hid
            cases secsE 0 q <;> simp [rowsOf]
          case round =>
            clear ho5' hB5 hn5
            obtain ⟨rs, la, A', n', c', left, rfl, hS, rfl, hol, HE, hroom, hbl⟩ := hrel
            obtain ⟨_, _, _, e0, HLl, hncl, hcl, hrl⟩ := hol.form
            cases e0
            rcases left with _ | ⟨t, r⟩
            · have h0 : n' = 0 := by have := HLl.out; simpa using this.symm
              subst h0
              have hc64 := (hbl.cell (World.block_lt_of_cell? _ _ hc6)).trans hc6
              have hc64' : wr.cell? ⟨ad.block, ad.off + 6, none⟩ = some (.int .u8 ((l[6]'(by have := HL.out; omega)).toNat : Int)) := by simpa [Addr.add] using hc64
              go_wp2_with fail
              go_ret3
              have hsome : secsE 0 q = some (rowsOf rs) := by rw [HE.out, secsE_nil]; simp
              rw [hsome] at HU
              rw [HU.out, H6.out]
              exact ⟨_, rs, rfl, hS, rfl, hbl⟩
            · have hpos : 0 < n' := by have := HLl.out; simp at this; omega
              have hbt : decide ((0 : Int) < (n' : Int)) = true := by simp; omega
              have ht : t.toNat < 256 := t.toNat_lt
              have HX := Lib.hid (secsE_cons la t r)
              obtain ⟨_, g, rfl, hg, hgl, _, _⟩ := hol.head hpos
              have hcell0 : wr.cell? ⟨g, 0, none⟩ = some (.int .u8 (t.toNat : Int)) := hol.cellAt (k := 0) (by simp)
              obtain ⟨A1, hcut0, hr1⟩ := cut_from (some ⟨g, 0, none⟩) n' c' 1 (t :: r) wr HLl.out hrl (by omega) hncl
              have hcut : ∀ W : World, (Instr.slice 24 (.slice (some ⟨g, 0, none⟩) n' c') (some (.int .i64 1)) none none).run Try.prog W = .ok (.slice A1 (n' - 1) (c' - 1)) W := hcut0
              clear hcut0
              have HLr : Hid (r.length = n' - 1) := by have := HLl.out; simp at this; unfold Hid; omega
              unfold maxLen at hcl
              have HT := Lib.hid (reftakeT_any A1 (n' - 1) (c' - 1) 262144 r wr HLr.out hr1 (by omega) (by simp only [maxLen]; omega) (by omega) (by omega) (by omega))
              have hrl2 := takeT_len r 262144
              generalize takeT r 262144 = qq at *
              obtain ⟨d, rest, er⟩ := qq
              dsimp only at HX HT hrl2
              have hrl3 : rest.length < n' := by have := HLr.out; omega
              clear hrl2
              by_cases hle : (t.toNat : Int) ≤ la
              · have hb1 : decide ((t.toNat : Int) ≤ la) = true := by simpa using hle
                go_wp2_with fail
                refine (HT.out).mono ?_
                rintro e w6 ⟨v, u, rfl, hov, hou, _, g6⟩
                go_wp2_with fail
                go_ret3
                rw [HX.out, if_pos (.inr (by omega))] at HE
                have hnone : secsE 0 q = none := by rw [HE.out]; rfl
                rw [hnone] at HU
                rw [HU.out]
                exact ⟨_, [], rfl, OwnS.nil _ _, rfl, bl_trans hbl g6⟩
              · have hb1 : decide ((t.toNat : Int) ≤ la) = false := by simpa using hle
                by_cases her : er = 0
                · subst her
                  rw [HX.out, if_neg (by simp; omega)] at HE
                  go_wp2_with fail
                  refine (HT.out).mono ?_
                  rintro e w6 ⟨v, u, rfl, hov, hou, hap, g6⟩
                  obtain ⟨Av, nv, cv, rfl, _, _, _, _⟩ := hov.form
                  obtain ⟨Au, nu, cu, rfl, HLu, hncu, hccu, _⟩ := hou.form
                  have hS6 := hS.below g6
                  have hB6 := bl_trans hbl g6
                  have hsz6 := hB6.size
                  have hszr := hbl.size
                  go_wp2_with (at_builtin; refine wpList_append_lies _ rfl _ _ _ rfl w.heap.size 41 i0 (.agg #[.int .i64 0, .slice none 0 0]) 2 32 Try.underlying22 hi hi0 hi1 hi2 rfl (by omega) _ rs.length (rowCells rs) rfl (World.ownsRow.alloc hS6.row _) ⟨w6.heap.size, 0, none⟩ 1 1 [.int .i64 (t.toNat : Int), .slice Av nv cv] rfl rfl (two_cells _ _ _ _ _ (by simp)) (by simp [Value.oneCell']) (by omega) (by simp only [maxLen]; omega) (by omega) (by simp; omega) (w6.heap.size + 1) (by simp) ?_)
                  intro gq cap w7 hown7 hgrow _ _
                  go_wp2_with fail
                  have hSa := hS6.below (bl_alloc (Below.refl w6.heap.size w6) (.cells #[Value.int IntKind.i64 (t.toNat : Int), Value.slice Av nv cv] 41))
                  have hova := hov.alloc (.cells #[Value.int IntKind.i64 (t.toNat : Int), Value.slice Av nv cv] 41)
                  have houa := hou.alloc (.cells #[Value.int IntKind.i64 (t.toNat : Int), Value.slice Av nv cv] 41)
                  refine ⟨⟨rs ++ [(((t.toNat : Int), d), Value.slice Av nv cv)], (t.toNat : Int), Au, nu, cu, rest, rfl, ?_, rfl, ?_, ?_, ?_, ?_⟩, ?_⟩
                  · exact hSa.more (w0 := wr) hS.datalt hova hszr hown7 hgrow
                  · exact ((houa.kept hgrow (types_ne houa hSa.row)).more hszr)
                  · unfold Hid
                    rw [HE.out, Option.map_map]
                    congr 1
                    funext x
                    simp [rowsOf]
                  · have := HLu.out; simp; omega
                  · exact bl_grown (bl_alloc hB6 _) hgrow (fun k hk => (hS6.lt k hk).1)
                  · have := HLu.out
                    show nu < n'
                    omega
                · have hbe : ((er : Int) != 0) = true := by simp; omega
                  have hbe' : ((er : Int) == 0) = false := by simp; omega
                  go_wp2_with fail
                  refine (HT.out).mono ?_
                  rintro e w6 ⟨v, u, rfl, hov, hou, _, g6⟩
                  go_wp2_with fail
                  go_ret3
                  rw [HX.out, if_pos (.inl her)] at HE
                  have hnone : secsE 0 q = none := by rw [HE.out]; rfl
                  rw [hnone] at HU
                  rw [HU.out]
                  exact ⟨_, [], rfl, OwnS.nil _ _, rfl, bl_trans hbl g6⟩
        · have HB := Lib.hid (show decide (l.drop (z - 4) = fourE (ofE (l.take (z - 4)))) = false by simpa using fun h => h3 (HIF.out.2 h))
          rw [if_pos (by simpa using h3)] at HU
          clear h3
          go_enter Try.func24, Try.ntmps24
          go_wp2_with fail
          refine (HZ.out).mono ?_
          rintro e w1 ⟨rfl, hb1⟩
          have hd1 : Below w.heap.size w w1.drew := bl_trans hb1 (Below.drew (Below.refl _ _))
          go_wp2_with fail
          go_region_with (first
            | (go_at_call 35; (with_reducible refine (refOf_any A (z - 4) c (l.take (z - 4)) _ HLt.out ((hr.take _).below hd1) (by simp only [maxLen]; omega)).mono ?_); rintro e w2 ⟨rfl, rfl⟩)
            | (go_at_call 34; (with_reducible refine (refFour_any (ofE (l.take (z - 4))) _).mono ?_); rintro e w3 ⟨v3, rfl, ho3, hb3⟩; obtain ⟨A3, n3, c3, rfl, HL3, _, hc3, hr3⟩ := ho3.form)
            | (go_at_call 16; (with_reducible refine (eq_is (b := false) HL4.out HL3.out (hr4.below (bl_trans hd1 hb3)) hr3 (by simp [maxLen]) (by omega) HB.out).mono ?_); rintro e w4 ⟨rfl, hb4⟩))
          go_wp2_with fail
          go_ret3
          rw [HU.out]
          exact ⟨_, [], rfl, OwnS.nil _ _, rfl, bl_trans (bl_trans hd1 hb3) hb4⟩
  · rw [if_pos (by omega)] at HU
    have hbe : ((er : Int) != 0) = true := by simp; omega
    have hbe' : ((er : Int) == 0) = false := by simp; omega
    go_enter Try.func24, Try.ntmps24
    go_wp2_with fail
    refine (HZ.out).mono ?_
    rintro e w1 ⟨rfl, hb1⟩
    go_wp2_with fail
    go_ret3
    rw [HU.out]
    exact ⟨_, [], rfl, OwnS.nil _ _, rfl, hb1⟩

end Go.Proofs.Ytlblcligjelbgaa
