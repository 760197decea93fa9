/- What Record writes, one behind the other, Records reads; of any beginning of these bytes the records that are whole there: JournalReads, of all lists of bytes, and where they are cut. No condition. -/
import Derived.Test.YtdgaipdpebinbaaJoX
set_option linter.unusedVariables false
set_option linter.unusedSimpArgs false
namespace Go.Proofs.Ytdgaipdpebinbaa
open Go.RowKit Go.Maps Go.Shelf Go.Sort Go.ChangeShapes Go.WideShapes Go.ChangeAt

theorem info_ints : (Try.prog.info? 3).map (fun i => (i.zero, i.size, i.bytes)) = some (some (.int .i64 0), 1, 8) := by kernel_rfl
theorem rowV_own {w' : World} {v : Value} {l : List BS} {base : Nat} {vals : List Value} (ho : w'.ownsRow base 30 1 v l.length vals) (hv : ∀ q (h : q < l.length), ∃ u, vals[q]? = some u ∧ Own w' base u l[q]) : RowV w' v l := by
  rcases ho.2 with ⟨e, hn⟩ | ⟨g, cap, cur, e, hb, hg, hnc, hcm, r⟩
  · exact ⟨none, 0, by rw [e, hn], by omega, by unfold maxLen; omega, fun h => by omega⟩
  · refine ⟨some ⟨g, 0, none⟩, cap, e, hnc, hcm, fun h0 => ⟨_, rfl, fun j hj => ?_⟩⟩
    obtain ⟨u, hu, hou⟩ := hv j hj
    obtain ⟨A, c, rfl, _, _, hr⟩ := hou.shape
    exact ⟨A, c, World.ownsRow.cells ho (g := g) (by rw [e]; rfl) j _ hu, hr⟩
theorem RdL.takeK {w : World} {A : Option Addr} {l : List BS} (h : RdL w A l) (k : Nat) : RdL w A (l.take k) := fun h0 => by
  have hl : 0 < l.length := by rw [List.length_take] at h0; omega
  obtain ⟨ad, e, hc⟩ := h hl
  refine ⟨ad, e, fun j hj => ?_⟩
  have hj2 : j < l.length := by rw [List.length_take] at hj; omega
  obtain ⟨Aj, cj, h1, h2⟩ := hc j hj2
  have eg : (l.take k)[j] = l[j] := by simp
  rw [eg]
  exact ⟨Aj, cj, h1, h2⟩
theorem cut_rows (A : Option Addr) (n c k : Nat) (hk : k ≤ n) (hnc : n ≤ c) (W : World) : (Instr.slice 28 (.slice A n c) none (some (.int .i64 (k : Int))) none).run Try.prog W = .ok (.slice A k c) W := by
  obtain ⟨i, hi, _, hs1, _⟩ := info_parts info_rows
  have he : Try.prog.elem 28 = 30 := by kernel_rfl
  rw [run_slice_h W 28 A n c (by rw [he]; exact Try.underlying28) .i64 k (by omega) (by omega)]
  simp [sizeOf, typeInfo, he, hi, hs1, sliced, Result.andThen]
  intro _
  cases A <;> simp [Addr.add]
/-- Where a row of ints lies, a row of bytes lies not. -/
theorem own_int {w w' : World} {base : Nat} {u : Value} {l : List UInt8} (h : Own w base u l) {row : Option Nat} (hg : w.grownBy w' row) (hr : ∀ g, row = some g → ∃ cs fr, w.heap[g]? = some (.cells cs 3 fr)) : Own w' base u l := by
  refine h.kept hg ?_
  rcases h.2 with ⟨e, _⟩ | ⟨g, cap, cur, e, _, hg', _⟩
  · rw [e]; exact .inl rfl
  · rw [e]
    refine .inr fun e2 => ?_
    obtain ⟨cs, fr, hb⟩ := hr g e2.symm
    rw [hg'] at hb
    cases hb
theorem int_own {w w' : World} {base n : Nat} {v : Value} {vals : List Value} (h : w.ownsRow base 3 1 v n vals) {row : Option Nat} (hg : w.grownBy w' row) (hr : ∀ g, row = some g → ∃ cs fr, w.heap[g]? = some (.cells cs 5 fr)) : w'.ownsRow base 3 1 v n vals := by
  refine World.ownsRow.kept h hg ?_
  rcases h.2 with ⟨e, _⟩ | ⟨g, cap, cur, e, _, hg', _⟩
  · rw [e]; exact .inl rfl
  · rw [e]
    refine .inr fun e2 => ?_
    obtain ⟨cs, fr, hb⟩ := hr g e2.symm
    rw [hg'] at hb
    cases hb
theorem int_kind {w : World} {base n : Nat} {v : Value} {vals : List Value} (h : w.ownsRow base 3 1 v n vals) : ∀ g, v.ownBlock = some g → ∃ cs fr, w.heap[g]? = some (.cells cs 3 fr) := fun g hg => by
  rcases h.2 with ⟨e2, hn⟩ | ⟨g', cap, cur, e2, hbase, hg', _⟩
  · rw [e2] at hg
    simp [Value.ownBlock] at hg
  · rw [e2] at hg
    simp [Value.ownBlock] at hg
    subst hg
    exact ⟨_, _, hg'⟩
theorem byte_kind {w : World} {base : Nat} {v : Value} {l : List UInt8} (h : Own w base v l) : ∀ g, v.ownBlock = some g → ∃ cs fr, w.heap[g]? = some (.cells cs 5 fr) := fun g hg => by
  rcases h.2 with ⟨e2, hn⟩ | ⟨g', cap, cur, e2, hbase, hg', _⟩
  · rw [e2] at hg
    simp [Value.ownBlock] at hg
  · rw [e2] at hg
    simp [Value.ownBlock] at hg
    subst hg
    exact ⟨_, _, hg'⟩
theorem int_below {w w' : World} {base n : Nat} {v : Value} {vals : List Value} (h : w.ownsRow base 3 1 v n vals) (hb : Below w.heap.size w w') : w'.ownsRow base 3 1 v n vals := World.ownsRow.kept h (grown_of_below hb none) (by
  cases e : v.ownBlock with
  | none => exact .inl rfl
  | some c => exact .inr (by simp))
theorem int_form {w : World} {B n : Nat} {v : Value} {vals : List Value} (h : w.ownsRow B 3 1 v n vals) : ∃ A c, v = .slice A n c := by
  rcases h.2 with ⟨e, hn⟩ | ⟨g, cap, cur, e, r⟩
  · subst hn; exact ⟨_, _, e⟩
  · exact ⟨_, _, e⟩
theorem int_cell {w : World} {B n c : Nat} {A : Option Addr} {vals : List Value} (h : w.ownsRow B 3 1 (.slice A n c) n vals) {j : Nat} (hj : j < n) {u : Value} (hu : vals[j]? = some u) : ∃ ad, A = some ad ∧ w.cell? (ad.add j) = some u := by
  rcases h.2 with ⟨e, hn⟩ | ⟨g, cap, cur, e, r⟩
  · omega
  · cases e
    exact ⟨_, rfl, World.ownsRow.cells h (g := g) rfl j u hu⟩
/-- Where the first records end, as values. -/
def endV (l : List BS) (k : Nat) : List Value := (List.range k).map fun j => .int .i64 ((endE l (j + 1) : Nat) : Int)
theorem endV_more (l : List BS) (k : Nat) : endV l (k + 1) = endV l k ++ [.int .i64 ((endE l (k + 1) : Nat) : Int)] := by unfold endV; rw [List.range_succ, List.map_append, List.map_singleton]
theorem end_le {l : List BS} (hl : l.length ≤ 20) (hb : ∀ b ∈ l, b.length ≤ 200) : ∀ {k : Nat}, k ≤ l.length → endE l k ≤ 220 * k := by
  intro k
  induction k with
  | zero => intro _; exact Nat.le_refl _
  | succ k ih =>
    intro hk
    rw [end_more (by omega)]
    have := ih (by omega)
    have := hb l[k] (List.getElem_mem _)
    omega
set_option maxHeartbeats 8000000 in
set_option maxRecDepth 40000 in
theorem reads_walk (w : World) (A : Option Addr) (n c : Nat) (L : List BS) (cut : Int) (hl : L.length = n) (hr : RdC w A L) (h1 : -9223372036854775808 ≤ cut) (h2 : cut ≤ 9223372036854775807) :
    Calls Try.prog 5 #[.slice A n c, .int .i64 cut] w (Yes w) := by
  have hso := some_any A n c L w hl hr
  obtain ⟨hs1, hs2⟩ := some_short L
  obtain ⟨i0, hi, hz0, hz1, hz2⟩ := info_parts info_ints
  generalize someE L = l at hso hs1 hs2
  have hN20 : l.length ≤ 20 := hs1
  have hle : ∀ k, k ≤ l.length → endE l k ≤ 4400 := fun k hk => by
    have := end_le hs1 hs2 (k := k) (by omega)
    omega
  have hshort : short l := fun b hb => by have := hs2 b hb; omega
  have HLE := Lib.hid hle
  have HS2 := Lib.hid hs2
  have HSH := Lib.hid hshort
  clear hl hr hle hs1 hs2 hshort
  go_enter Try.func5, Try.ntmps5
  go_wp2_with fail
  refine hso.mono ?_
  rintro e w1 ⟨v1, vals1, rfl, ho1, hv1, hb1⟩
  have hrow : RowV w1 v1 l := rowV_own ho1 hv1
  obtain ⟨A1, c1, rfl, hc1, hc1', hrd⟩ := hrow
  clear ho1 hv1 hso
  go_wp2_with fail
  go_loopw [5, 6, 7] (fun vb ve i wr => ∃ k : Nat, k ≤ l.length ∧ i = .int .i64 (k : Int) ∧ Hid (Own wr w1.heap.size vb (catR 1 (l.take k))) ∧ (∃ Ab cb, vb = .slice Ab (endE l k) cb) ∧ Hid (wr.ownsRow w1.heap.size 3 1 ve k (endV l k)) ∧ Hid (Below w1.heap.size w1 wr)) (fun _ _ i _ => l.length - (intOf i).toNat)
  case atStart => exact ⟨0, Nat.zero_le _, rfl, Own.nil _ _, ⟨none, 0, rfl⟩, World.ownsRow_nil _ _ _ _, Below.refl _ _⟩
  case round =>
    obtain ⟨k, hk, rfl, HB, ⟨Ab, cb, rfl⟩, HE, HW⟩ := hrel
    by_cases hlt : k < l.length
    · have hkl : k < l.length := hlt
      obtain ⟨ad, Ak, ck, rfl, hck, hrk⟩ := (hrd.below HW.out).at hkl
      have h200 := HS2.out l[k] (List.getElem_mem hkl)
      have hrec := record_any (k + 1) Ak l[k].length ck l[k] wr (by omega) (by omega) rfl hrk (by omega)
      have e1 : (((k + 1 : Nat)) : Int) = (k : Int) + 1 := by omega
      rw [e1] at hrec
      have hcat : catR 1 (l.take (k + 1)) = catR 1 (l.take k) ++ recE (k + 1) l[k] := by
        rw [List.take_succ_eq_append_getElem hkl, catR_snoc, List.length_take, Nat.min_eq_left (by omega), Nat.add_comm 1 k]
      have hem := end_more hkl
      have HCAT := Lib.hid hcat
      have HEM := Lib.hid hem
      have hsw := HW.out.size
      have hel : (catR 1 (l.take k)).length = endE l k := rfl
      have hle1 := HLE.out k hk
      clear hrk hcat hem
      go_wp2_with fail
      refine hrec.mono ?_
      rintro e w2 ⟨v2, rfl, ho2, hb2⟩
      obtain ⟨A2, c2, rfl, _, _, hr2⟩ := ho2.shape
      have HOB := Lib.hid (HB.out.below hb2)
      have HOE := Lib.hid (int_below HE.out hb2)
      have HW2 := Lib.hid (bl_trans HW.out hb2)
      have hsz2 := hb2.size
      clear HB HE hrec ho2
      go_wp2_with (at_builtin; refine wpList_append_bytes _ rfl _ _ rfl w1.heap.size _ (catR 1 (l.take k)) rfl HOB.out A2 _ c2 (recE (k + 1) l[k]) rfl rfl hr2 (by rw [hel, rec_len]; omega) (by omega) ?_)
      intro v3 w3 ho3 hg3 hn3
      have hko := byte_kind HOB.out
      have HOE3 := Lib.hid (int_own HOE.out hg3 hko)
      have HW3 := Lib.hid (bl_grown HW2.out hg3 (fun g hg => (HOB.out.lt g hg).1))
      rw [← HCAT.out] at ho3
      obtain ⟨A3, n3, c3, rfl, hn3', _, _, _⟩ := ho3.form
      have hn3e : n3 = endE l (k + 1) := hn3'.out.symm
      subst hn3e
      have HO3 := Lib.hid ho3
      have hs3 := hg3.size
      clear ho3 hg3 hn3 hko HOB HOE hr2 hn3'
      go_wp2_with (at_builtin; refine wpList_append_own _ rfl _ _ 23 rfl w1.heap.size 3 i0 (.int .i64 0) 1 8 Try.underlying23 hi hz0 hz1 hz2 rfl (by decide) _ k _ rfl (World.ownsRow.alloc HOE3.out _) ⟨w3.heap.size, 0, none⟩ 1 1 [.int .i64 ((endE l (k + 1) : Nat) : Int)] rfl rfl (one_row _ _ _) (by simp [Value.oneCell']) (by simp only [maxLen]; omega) (by omega) (by simp; omega) ?_)
      intro v4 w4 ho4 hg4 hn4
      have hal : Below w3.heap.size w3 (w3.alloc (.cells #[.int .i64 ((endE l (k + 1) : Nat) : Int)] 3)) := (Below.refl _ w3).alloc (Nat.le_refl _) _
      have hki := int_kind (World.ownsRow.alloc HOE3.out (.cells #[.int .i64 ((endE l (k + 1) : Nat) : Int)] 3))
      have HO4 := Lib.hid (own_int (HO3.out.below hal) hg4 hki)
      rw [← endV_more] at ho4
      have HE4 := Lib.hid ho4
      have HW4 := Lib.hid (bl_grown (bl_alloc HW3.out (.cells #[.int .i64 ((endE l (k + 1) : Nat) : Int)] 3)) hg4 (fun g hg => (HOE3.out.lt g hg).1))
      clear ho4 hg4 hn4 hki hal HOE3 HO3
      go_wp2_with fail
      exact ⟨⟨k + 1, by omega, by go_num, HO4, ⟨A3, c3, rfl⟩, HE4, HW4⟩, by simp [intOf]; omega⟩
    · have hkN : k = l.length := by omega
      subst hkN
      have hcw : (catR 1 (l.take l.length)) = catR 1 l := by rw [List.take_length]
      have hB0 : Own wr w1.heap.size (.slice Ab (endE l l.length) cb) (catR 1 l) := by rw [← hcw]; exact HB.out
      obtain ⟨Ae, ce, rfl⟩ := int_form HE.out
      obtain ⟨Q, hQ⟩ : ∃ Q, endE l l.length = Q := ⟨_, rfl⟩
      have hQc : (catR 1 l).length = Q := by rw [← hQ, end_all]
      have hQ4 : Q ≤ 4400 := by rw [← hQ]; exact HLE.out _ (Nat.le_refl _)
      rw [hQ] at hB0 ⊢
      obtain ⟨hch, hrb, hbn⟩ : Q ≤ cb ∧ Rd wr Ab (catR 1 l) ∧ cb ≤ maxLen := by
        obtain ⟨A', n', c', e, h7, h8, h9, h10⟩ := hB0.form
        cases e
        exact ⟨h8, h10, h9⟩
      have hbr := bring_any cut (Q + 1) wr h1 h2 (by omega) (by omega)
      obtain ⟨k, hk⟩ : ∃ k : Nat, (k : Int) = cut % ((Q + 1 : Nat) : Int) := ⟨(cut % ((Q + 1 : Nat) : Int)).toNat, Int.toNat_of_nonneg (Int.emod_nonneg _ (by omega))⟩
      have hkQ : k ≤ Q := by
        have := Int.emod_lt_of_pos cut (show (0 : Int) < ((Q + 1 : Nat) : Int) by omega)
        omega
      have eq1 : (((Q + 1 : Nat)) : Int) = (Q : Int) + 1 := by omega
      rw [← hk, eq1] at hbr
      obtain ⟨M, hM1, hM2, hM3, hM4⟩ := ends_at l (k := k) (by rw [hQ]; exact hkQ)
      have hrec2 := recs_begin HSH.out hM2 hM3
      have hrec1 := recs_cat HSH.out
      have HR1 := Lib.hid hrec1
      have HR2 := Lib.hid hrec2
      have HM4 := Lib.hid hM4
      have HQC := Lib.hid hQc
      have HQ := Lib.hid hQ
      have HRB := Lib.hid hrb
      have HBN := Lib.hid hbn
      clear hlt hk hcw hQ hQc hrec1 hrec2 hM4 hrb HB hB0 hM3 eq1 hbn
      go_wp2_with (go_at_call 21; refine hbr.mono ?_; rintro e wr2 ⟨rfl, rfl⟩)
      go_loopw [11, 12, 13] (fun vm vn i wx => ∃ j : Nat, j ≤ l.length ∧ i = .int .i64 (j : Int) ∧ vm = .int .i64 ((min j M : Nat) : Int) ∧ vn = .int .i64 ((endE l (min j M) : Nat) : Int) ∧ Below wr2.heap.size wr2 wx) (fun _ _ i _ => l.length - (intOf i).toNat)
      case atStart => exact ⟨0, Nat.zero_le _, rfl, by simp, by simp [end_zero], Below.refl _ _⟩
      case round =>
        obtain ⟨j, hj, rfl, rfl, rfl, hbx⟩ := hrel
        by_cases hlt : j < l.length
        · obtain ⟨ad, rfl, hce⟩ := int_cell (int_below HE.out hbx) hlt (u := .int .i64 ((endE l (j + 1) : Nat) : Int)) (by unfold endV; simp [hlt])
          by_cases hjM : j < M
          · have hd : decide (((endE l (j + 1) : Nat) : Int) ≤ (k : Int)) = true := by
              have := (HM4.out j hlt).2 hjM
              simp; omega
            have m1 : min (j + 1) M = j + 1 := by omega
            have hle := (HM4.out j hlt).2 hjM
            go_wp2_with fail
            exact ⟨⟨j + 1, by omega, by go_num, by rw [m1]; go_num, by rw [m1], hbx⟩, by simp [intOf]; omega⟩
          · have hd : decide (((endE l (j + 1) : Nat) : Int) ≤ (k : Int)) = false := by
              have : ¬ endE l (j + 1) ≤ k := fun h => hjM ((HM4.out j hlt).1 h)
              simp; omega
            have m1 : min (j + 1) M = min j M := by omega
            have hle : ¬ endE l (j + 1) ≤ k := fun h => hjM ((HM4.out j hlt).1 h)
            go_wp2_with fail
            exact ⟨⟨j + 1, by omega, by go_num, by rw [m1], by rw [m1], hbx⟩, by simp [intOf]; omega⟩
        · have hjl : min j M = M := by omega
          rw [hjl]
          have hje : j = l.length := by omega
          subst hje
          clear hlt hj hjl
          have hrb := HRB.out.below hbx
          have hra := records_any Ab Q cb (catR 1 l) _ HQC.out hrb hch HBN.out (by omega)
          rw [HR1.out, HQC.out] at hra
          have hct := cut_to Ab Q cb k hkQ hch (k : Int) rfl
          go_wp2_with fail
          refine hra.mono ?_
          rintro e w5 ⟨v5, vals5, rfl, ho5, hv5, hb5⟩
          have hrow5 : RowV w5 v5 l := rowV_own ho5 hv5
          obtain ⟨A5, c5, rfl, _, _, hrd5⟩ := hrow5
          have hkl : ((catR 1 l).take k).length = k := by rw [List.length_take, HQC.out]; omega
          have hra2 := records_any Ab k cb ((catR 1 l).take k) w5 hkl ((hrb.below hb5).take k) (by omega) HBN.out (by omega)
          rw [HR2.out] at hra2
          clear ho5 hv5 hra
          go_wp2_with fail
          refine hra2.mono ?_
          rintro e w6 ⟨v6, vals6, rfl, ho6, hv6, hb6⟩
          have hrow6 : RowV w6 v6 (l.take M) := rowV_own ho6 hv6
          obtain ⟨A6, c6, rfl, _, _, hrd6⟩ := hrow6
          have hlM : (l.take M).length = M := by rw [List.length_take]; omega
          rw [hlM]
          have hw16 := bl_trans (bl_trans (bl_trans HW.out hbx) hb5) hb6
          have hs1 := sameT_any A5 A1 l.length c5 c1 l w6 rfl (hrd5.below hb6) (hrd.below hw16) (by omega)
          have hcr := cut_rows A1 l.length c1 M hM1 hc1
          clear ho6 hv6 hra2
          go_wp2_with fail
          refine hs1.mono ?_
          rintro e w7 ⟨rfl, hb7⟩
          have hs2 := sameT_any A6 A1 M c6 c1 (l.take M) w7 hlM (hrd6.below hb7) ((hrd.below (bl_trans hw16 hb7)).takeK M) (by omega)
          clear hs1
          go_wp2_with fail
          refine hs2.mono ?_
          rintro e w8 ⟨rfl, hb8⟩
          clear hs2
          go_wp2_with fail
          refine (jawake_any _).mono ?_
          rintro e w9 ⟨rfl, hb9⟩
          go_wp2_with fail
          go_ret
          exact ⟨rfl, bl_trans (bl_trans (bl_trans (bl_trans hb1 hw16) hb7) hb8) hb9⟩
set_option maxRecDepth 100000 in
theorem JournalReads_holds : Rows.JournalReadsSaid :=
  OpenClaim.holds_of_wide 5 Try.f5 rfl rfl rfl rfl rfl rfl rfl ⟨rfl, rfl, rfl, rfl, rfl⟩ rfl rfl rfl rfl rfl (by kernel_rfl) Try.func5 (by kernel_rfl)
    (of_decide_eq_true (by kernel_rfl)) (by unfold Func.isWrapper; first | (rw [if_pos (by decide +kernel)]; kernel_rfl) | (rw [if_neg (by decide +kernel)]; exact ⟨rfl, rfl⟩))
    (fun os started H enc _ => law_lifted (s := Rows.journalReadsSpec) Try.func5 (by kernel_rfl) rfl
      (fun H ds h => by rw [Try.params5] at h; match ds, h with | [_, _], _ => rfl) (by kernel_rfl) (by kernel_rfl)
      os started H enc
      (ChangeSpec.witness6 (enc := enc) (C := Try.checked) false ⟨#[], #[.slice none 0 0, .int .i64 0], []⟩ 8 (by kernel_rfl) (by kernel_rfl) (by kernel_rfl) (by kernel_rfl))
      (fun W args ds p h => by
        obtain ⟨⟨base, hok⟩, hA, hl⟩ := h
        rw [Try.params5] at hok hA hl
        obtain ⟨v0, v1, d0, d1, p0, p1, rfl, rfl, rfl, g0, g1⟩ := trodAll_two hA
        obtain ⟨A0, n0, c0, l0, rfl, e0, a0, b0, r0⟩ := open_lists (hok 0 28 v0 rfl rfl) g0
        obtain ⟨n1, rfl, a1, b1⟩ := open_i64 (hok 1 3 v1 rfl rfl) g1
        exact reads_walk W A0 n0 c0 l0 n1 e0 r0 a1 b1))

end Go.Proofs.Ytdgaipdpebinbaa
