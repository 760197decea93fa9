/- PackKnown: both ends, what is refused, and which error comes first. -/
import Derived.Test.YtlblcligjelbgaaPackK
set_option linter.unusedVariables false
namespace Go.Proofs.Ytlblcligjelbgaa
open Go.ChangeShapes Go.WideShapes Go.ChangeAt Go.RowKit

theorem packE_big {kind t : Int} {l : List UInt8} {n d : Nat} (hk0 : 0 ≤ kind) (hk1 : kind ≤ 255) (ht0 : 0 < t) (ht1 : t ≤ 255) (hl : l.length = n) (hd : (digs n).length = d) :
    packE kind [(t, l)] = if 262144 < 11 + (1 + (d + n)) then ([], 5) else (sealE (innerE kind.toNat (bodyOf [(t, l)])), 0) := by
  have hb : (bodyOf [(t, l)]).length = 1 + (d + n) := by
    unfold bodyOf secB
    simp only [List.map_cons, List.map_nil, List.flatten_cons, List.flatten_nil, List.append_nil, List.length_cons, List.length_append, hl, hd]
    omega
  unfold packE
  rw [if_neg (by simp [riseFrom]; omega), hb]
theorem dl1 : (digs 262129).length = 3 := by rw [digs_big (by omega), digs_big (by omega), digs_small (by omega)]; rfl
theorem dl2 : (digs 262130).length = 3 := by rw [digs_big (by omega), digs_big (by omega), digs_small (by omega)]; rfl
theorem pk1 {l : List UInt8} (hl : l.length = 262129) : ∃ b, packE 255 [(255, l)] = (b, 0) ∧ b.length = 262144 := by
  have h := packE_big (kind := 255) (t := 255) (by omega) (by omega) (by omega) (by omega) hl dl1
  rw [if_neg (by omega)] at h
  refine ⟨_, h, ?_⟩
  have h2 := (pack_ok h).2.2.2.2.2
  rw [h2]
  unfold bodyOf secB
  simp only [List.map_cons, List.map_nil, List.flatten_cons, List.flatten_nil, List.append_nil, List.length_cons, List.length_append, hl, dl1]
theorem pk2 {l : List UInt8} (hl : l.length = 262130) : packE 255 [(255, l)] = ([], 5) := by
  rw [packE_big (by omega) (by omega) (by omega) (by omega) hl dl2, if_pos (by omega)]
theorem pk3 {l : List UInt8} (hl : l.length = 524260) : packE 0 [(1, l)] = ([], 5) := by
  rw [packE_big (by omega) (by omega) (by omega) (by omega) hl rfl, if_pos (by omega)]
theorem pk4 {l : List UInt8} : packE 0 [(2, l), (1, [])] = ([], 2) := by
  unfold packE
  rw [if_pos (by simp [riseFrom])]
theorem pk5 : packE 256 [] = ([], 2) := by unfold packE; rw [if_pos (by simp)]
theorem pk6 : packE (-1) [] = ([], 2) := by unfold packE; rw [if_pos (by simp)]
theorem pk7 : packE 0 [(0, [])] = ([], 2) := by unfold packE; rw [if_pos (by simp [riseFrom])]
theorem pk8 : packE 0 [(256, [])] = ([], 2) := by unfold packE; rw [if_pos (by simp [riseFrom])]
theorem pk9 : packE 0 [(2, []), (2, [])] = ([], 2) := by unfold packE; rw [if_pos (by simp [riseFrom])]
theorem pkA : ∃ b, packE 0 [] = (b, 0) ∧ b.length = 11 := ⟨_, rfl, rfl⟩
theorem two_data {l : List UInt8} (h : l.length = 524260) : ∀ s ∈ ([(2, l), (1, [])] : List Sec), s.2.length ≤ 150000000000000 := by
  intro s hs
  rcases List.mem_cons.1 hs with rfl | hs
  · show l.length ≤ _
    omega
  · simp at hs
    subst hs
    simp
theorem sz0 : sizeE [] = (0, 3) := by decide
theorem sz1 : sizeE [72] = (0, 4) := by decide
theorem sz2 : sizeE [73, 80, 0, 0, 4] = (0, 3) := by decide
theorem sz3 : sizeE [73, 81, 0] = (0, 4) := by decide
theorem sz4 : sizeE [73, 80, 1, 0, 4, 0] = (0, 5) := by decide +kernel
theorem sz5 : sizeE [73, 80, 0, 0, 4, 0] = (262144, 0) := by decide +kernel
theorem sz6 : sizeE [73, 80, 10, 0, 0, 0] = (0, 4) := by decide +kernel
theorem wr1 : (unpackE (sealE (innerE 3 [1, 0, 0]))).2.2 = 4 := by decide +kernel
theorem wr2 : (unpackE (sealE (innerE 3 [2, 0, 1, 0]))).2.2 = 4 := by decide +kernel
theorem wr3 : (unpackE (sealE (innerE 3 [1, 128, 0]))).2.2 = 4 := by decide +kernel
theorem wr4 : (unpackE (sealE (innerE 3 [1]))).2.2 = 4 := by decide +kernel
theorem wr5 : (unpackE (sealE (innerE 3 [1, 5, 0]))).2.2 = 4 := by decide +kernel
theorem wr6 : (unpackE (sealE (innerE 3 [1, 0, 2, 1, 9]))).2.2 = 0 := by decide +kernel

set_option maxHeartbeats 8000000 in
set_option maxRecDepth 20000 in
theorem packKnown_any (w : World) : Calls Try.prog 10 #[] w (Yes w) := by
  have hmk := make_bytes 262130 262130 rfl (by omega)
  have hz := rd_nulls w 262130
  have hBz := bl_alloc (Below.refl w.heap.size w) (.cells (nulls 262130) 5)
  have hsz : (w.alloc (.cells (nulls 262130) 5)).heap.size = w.heap.size + 1 := by simp
  have hlz : (List.replicate 262130 (0 : UInt8)).length = 262130 := List.length_replicate
  generalize List.replicate 262130 (0 : UInt8) = zs at *
  have HLZ := Lib.hid hlz
  clear hlz
  have HL1 : Hid ((zs.take 262129).length = 262129) := by unfold Hid; rw [List.length_take, HLZ.out]; omega
  obtain ⟨b1, hp1, hb1⟩ := pk1 HL1.out
  have HP1 := Lib.hid hp1
  have HB1 := Lib.hid hb1
  obtain ⟨bA, hpA, hbA⟩ := pkA
  have HPA := Lib.hid hpA
  have HBA := Lib.hid hbA
  clear hp1 hb1 hpA hbA
  go_enter Try.func10, Try.ntmps10
  go_wp2_with fail
  clear hmk
  generalize w.alloc (.cells (nulls 262130) 5) = W1 at *
  have HRW := Lib.hid (fun (W : World) (h : Below W1.heap.size W1 W) => hz.below h)
  have hrs1 := RdS.one (t := 255) (c := 262130) HL1.out (hz.take 262129) (by omega) (by simp [maxLen])
  rw [hsz] at hrs1
  refine (pack_is (n := 1) rfl hrs1 (by simp [maxLen]) (by intro s hs; simp only [List.mem_singleton] at hs; subst hs; show (zs.take 262129).length ≤ _; rw [HL1.out]; omega) HP1.out).mono ?_
  rintro e w2 ⟨v2, rfl, ho2, g⟩
  obtain ⟨A2, n2, c2, rfl, HL2, hnc2, hc2, _⟩ := ho2.form
  have hn2 : n2 = 262144 := HL2.out.symm.trans HB1.out
  subst hn2
  have hB := bl_trans (bl_alloc (Below.refl W1.heap.size W1) _) g
  clear g hrs1 hz hsz ho2 HL2
  go_wp2_with fail
  refine (pack_is (n := 1) rfl (RdS.one (t := 255) (c := 262130) HLZ.out (HRW.out _ hB) (by omega) (by simp [maxLen])) (by simp [maxLen]) (by intro s hs; simp only [List.mem_singleton] at hs; subst hs; show zs.length ≤ _; rw [HLZ.out]; omega) (pk2 HLZ.out)).mono ?_
  rintro e w3 ⟨v, rfl, _, g⟩
  have hB' := bl_trans (bl_alloc hB _) g
  clear hB g
  have hB := hB'
  clear hB'
  go_wp2_with (at_builtin; refine wpList_append_full _ rfl _ _ rfl (some ⟨w.heap.size, 0, none⟩) 262130 zs rfl HLZ.out (HRW.out _ hB) (some ⟨w.heap.size, 0, none⟩) 262130 262130 zs rfl HLZ.out (HRW.out _ hB) (by omega) (by omega) ?_)
  intro v4 w4 ho4 hg4
  obtain ⟨A4, n4, c4, rfl, HLa4, hnc4, hc4, hr4⟩ := ho4.form
  have hn4 : n4 = 524260 := by rw [← HLa4.out, List.length_append, HLZ.out]
  subst hn4
  have hB' := bl_grown hB hg4 (by simp)
  clear hB hg4 ho4
  have hB := hB'
  clear hB'
  go_wp2_with fail
  refine (pack_is (n := 1) rfl (RdS.one (t := 1) HLa4.out hr4 hnc4 hc4) (by simp [maxLen]) (by intro s hs; simp only [List.mem_singleton] at hs; subst hs; show (zs ++ zs).length ≤ _; rw [HLa4.out]; omega) (pk3 HLa4.out)).mono ?_
  rintro e w5 ⟨v, rfl, _, g⟩
  have hB' := bl_trans (bl_alloc hB _) g
  clear hB g
  have hB := hB'
  clear hB'
  go_wp2_with fail
  refine (pack_is (n := 0) (ss := []) rfl (RdS.nil _ _) (by simp [maxLen]) (by simp) pk5).mono ?_
  rintro e w6 ⟨v, rfl, _, g⟩
  have hB' := bl_trans hB g
  clear hB g
  have hB := hB'
  clear hB'
  go_wp2_with fail
  refine (pack_is (n := 0) (ss := []) rfl (RdS.nil _ _) (by simp [maxLen]) (by simp) pk6).mono ?_
  rintro e w7 ⟨v, rfl, _, g⟩
  have hB' := bl_trans hB g
  clear hB g
  have hB := hB'
  clear hB'
  go_wp2_with fail
  refine (pack_is (n := 1) rfl (RdS.one (t := 0) (l := []) (n := 0) (c := 0) rfl (Rd.nil _ _) (by omega) (by simp [maxLen])) (by simp [maxLen]) (by simp) pk7).mono ?_
  rintro e w8 ⟨v, rfl, _, g⟩
  have hB' := bl_trans (bl_alloc hB _) g
  clear hB g
  have hB := hB'
  clear hB'
  go_wp2_with fail
  refine (pack_is (n := 1) rfl (RdS.one (t := 256) (l := []) (n := 0) (c := 0) rfl (Rd.nil _ _) (by omega) (by simp [maxLen])) (by simp [maxLen]) (by simp) pk8).mono ?_
  rintro e w9 ⟨v, rfl, _, g⟩
  have hB' := bl_trans (bl_alloc hB _) g
  clear hB g
  have hB := hB'
  clear hB'
  go_wp2_with fail
  refine (pack_is (n := 2) rfl (RdS.two (t := 2) (t' := 2) (l := []) (l' := []) (n := 0) (c := 0) (n' := 0) (c' := 0) rfl rfl (Rd.nil _ _) (Rd.nil _ _) (by omega) (by simp [maxLen]) (by omega) (by simp [maxLen])) (by simp [maxLen]) (by simp) pk9).mono ?_
  rintro e w10 ⟨v, rfl, _, g⟩
  have hB' := bl_trans (bl_alloc hB _) g
  clear hB g
  have hB := hB'
  clear hB'
  go_wp2_with (at_builtin; refine wpList_append_full _ rfl _ _ rfl (some ⟨w.heap.size, 0, none⟩) 262130 zs rfl HLZ.out (HRW.out _ hB) (some ⟨w.heap.size, 0, none⟩) 262130 262130 zs rfl HLZ.out (HRW.out _ hB) (by omega) (by omega) ?_)
  intro v11 w11 ho11 hg11
  obtain ⟨A11, n11, c11, rfl, HLa11, hnc11, hc11, hr11⟩ := ho11.form
  have hn11 : n11 = 524260 := by rw [← HLa11.out, List.length_append, HLZ.out]
  subst hn11
  have hB' := bl_grown hB hg11 (by simp)
  clear hB hg11 ho11
  have hB := hB'
  clear hB'
  go_wp2_with fail
  refine (pack_is (n := 2) rfl (RdS.two (t := 2) (t' := 1) (l' := []) (n' := 0) (c' := 0) HLa11.out rfl hr11 (Rd.nil _ _) hnc11 hc11 (by omega) (by simp [maxLen])) (by simp [maxLen]) (two_data HLa11.out) pk4).mono ?_
  rintro e w12 ⟨v, rfl, _, g⟩
  have hB' := bl_trans (bl_alloc hB _) g
  clear hB g
  have hB := hB'
  clear hB'
  go_wp2_with fail
  refine (pack_is (n := 0) (ss := []) rfl (RdS.nil _ _) (by simp [maxLen]) (by simp) HPA.out).mono ?_
  rintro e w13 ⟨v, rfl, ho, g⟩
  obtain ⟨AA, nA, cA, rfl, HLA, hncA, hcA, _⟩ := ho.form
  have hnA : nA = 11 := HLA.out.symm.trans HBA.out
  subst hnA
  clear ho HLA
  have hB' := bl_trans hB g
  clear hB g
  have hB := hB'
  clear hB'
  go_wp2_with fail
  refine (size_is (n := 0) (l := []) rfl (Rd.nil _ _) (by omega) (by simp [maxLen]) sz0).mono ?_
  rintro e w14 ⟨rfl, g⟩
  have hB' := bl_trans hB g
  clear hB g
  have hB := hB'
  clear hB'
  go_wp2_with fail
  refine (size_is (n := 1) (l := [72]) rfl (Rd.litF w14 [72] (0, 0)) (by omega) (by simp [maxLen]) sz1).mono ?_
  rintro e w15 ⟨rfl, g⟩
  have hB' := bl_trans (bl_alloc hB _) g
  clear hB g
  have hB := hB'
  clear hB'
  go_wp2_with fail
  refine (size_is (n := 5) (l := [73, 80, 0, 0, 4]) rfl (Rd.litF w15 [73, 80, 0, 0, 4] (0, 0)) (by omega) (by simp [maxLen]) sz2).mono ?_
  rintro e w16 ⟨rfl, g⟩
  have hB' := bl_trans (bl_alloc hB _) g
  clear hB g
  have hB := hB'
  clear hB'
  go_wp2_with fail
  refine (size_is (n := 3) (l := [73, 81, 0]) rfl (Rd.litF w16 [73, 81, 0] (0, 0)) (by omega) (by simp [maxLen]) sz3).mono ?_
  rintro e w17 ⟨rfl, g⟩
  have hB' := bl_trans (bl_alloc hB _) g
  clear hB g
  have hB := hB'
  clear hB'
  go_wp2_with fail
  refine (size_is (n := 6) (l := [73, 80, 1, 0, 4, 0]) rfl (Rd.litF w17 [73, 80, 1, 0, 4, 0] (0, 0)) (by omega) (by simp [maxLen]) sz4).mono ?_
  rintro e w18 ⟨rfl, g⟩
  have hB' := bl_trans (bl_alloc hB _) g
  clear hB g
  have hB := hB'
  clear hB'
  go_wp2_with fail
  refine (size_is (n := 6) (l := [73, 80, 0, 0, 4, 0]) rfl (Rd.litF w18 [73, 80, 0, 0, 4, 0] (0, 0)) (by omega) (by simp [maxLen]) sz5).mono ?_
  rintro e w19 ⟨rfl, g⟩
  have hB' := bl_trans (bl_alloc hB _) g
  clear hB g
  have hB := hB'
  clear hB'
  go_wp2_with fail
  refine (size_is (n := 6) (l := [73, 80, 10, 0, 0, 0]) rfl (Rd.litF w19 [73, 80, 10, 0, 0, 0] (0, 0)) (by omega) (by simp [maxLen]) sz6).mono ?_
  rintro e w20 ⟨rfl, g⟩
  have hB' := bl_trans (bl_alloc hB _) g
  clear hB g
  have hB := hB'
  clear hB'
  go_wp2_with fail
  refine (works_any _).mono ?_
  rintro e w21 ⟨rfl, g⟩
  have hB' := bl_trans hB g
  clear hB g
  have hB := hB'
  clear hB'
  go_wp2_with fail
  refine (wrong_any _ 3 _ [1, 0, 0] 4 true _ rfl (Rd.litF w21 [1, 0, 0] (0, 0)) (by omega) wr1 rfl).mono ?_
  rintro e w22 ⟨rfl, g⟩
  have hB' := bl_trans (bl_alloc hB _) g
  clear hB g
  have hB := hB'
  clear hB'
  go_wp2_with fail
  refine (wrong_any _ 4 _ [2, 0, 1, 0] 4 true _ rfl (Rd.litF w22 [2, 0, 1, 0] (0, 0)) (by omega) wr2 rfl).mono ?_
  rintro e w23 ⟨rfl, g⟩
  have hB' := bl_trans (bl_alloc hB _) g
  clear hB g
  have hB := hB'
  clear hB'
  go_wp2_with fail
  refine (wrong_any _ 3 _ [1, 128, 0] 4 true _ rfl (Rd.litF w23 [1, 128, 0] (0, 0)) (by omega) wr3 rfl).mono ?_
  rintro e w24 ⟨rfl, g⟩
  have hB' := bl_trans (bl_alloc hB _) g
  clear hB g
  have hB := hB'
  clear hB'
  go_wp2_with fail
  refine (wrong_any _ 1 _ [1] 4 true _ rfl (Rd.litF w24 [1] (0, 0)) (by omega) wr4 rfl).mono ?_
  rintro e w25 ⟨rfl, g⟩
  have hB' := bl_trans (bl_alloc hB _) g
  clear hB g
  have hB := hB'
  clear hB'
  go_wp2_with fail
  refine (wrong_any _ 3 _ [1, 5, 0] 4 true _ rfl (Rd.litF w25 [1, 5, 0] (0, 0)) (by omega) wr5 rfl).mono ?_
  rintro e w26 ⟨rfl, g⟩
  have hB' := bl_trans (bl_alloc hB _) g
  clear hB g
  have hB := hB'
  clear hB'
  go_wp2_with fail
  refine (wrong_any _ 5 _ [1, 0, 2, 1, 9] 0 false _ rfl (Rd.litF w26 [1, 0, 2, 1, 9] (0, 0)) (by omega) wr6 rfl).mono ?_
  rintro e w27 ⟨rfl, g⟩
  have hB' := bl_trans (bl_alloc hB _) g
  clear hB g
  have hB := hB'
  clear hB'
  go_wp2_with fail
  go_ret
  exact ⟨rfl, bl_trans hBz hB⟩

set_option maxRecDepth 100000 in
theorem PackKnown_holds : Rows.PackKnownSaid :=
  OpenClaim.holds_of_wide 10 Try.f10 rfl rfl rfl rfl rfl rfl rfl ⟨rfl, rfl, rfl, rfl, rfl⟩ rfl rfl rfl rfl rfl (by kernel_rfl) Try.func10 (by kernel_rfl)
    (of_decide_eq_true (by kernel_rfl)) (by unfold Func.isWrapper; first | (rw [if_pos (by decide +kernel)]; kernel_rfl) | (rw [if_neg (by decide +kernel)]; exact ⟨rfl, rfl⟩))
    (fun os started H enc _ => law_lifted (s := Rows.packKnownSpec) Try.func10 (by kernel_rfl) rfl
      (fun H ds h => by rw [Try.params10] at h; match ds, h with | [], _ => rfl) (by kernel_rfl) (by kernel_rfl)
      os started H enc
      (ChangeSpec.witness6 (enc := enc) (C := Try.checked) false ⟨#[], #[], []⟩ 8 (by kernel_rfl) (by kernel_rfl) (by kernel_rfl) (by kernel_rfl))
      (fun W args ds p h => by
        obtain ⟨⟨base, hok⟩, hA, hl⟩ := h
        rw [Try.params10] at hok hA hl
        obtain ⟨hargs, rfl, rfl⟩ := trodAll_nil hA
        obtain rfl : args = #[] := by cases args; simp_all
        exact packKnown_any W))

end Go.Proofs.Ytlblcligjelbgaa
