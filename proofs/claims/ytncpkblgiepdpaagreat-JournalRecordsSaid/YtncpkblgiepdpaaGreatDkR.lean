/- What the program's disk does when the power goes: the walk. A contract over the translated program. No condition but that the disk lies in memory as said, and what the statement names. -/
import Derived.Test.YtncpkblgiepdpaaGreatDkO
import Derived.Deep.RegionHeld3
set_option linter.unusedVariables false
set_option linter.unusedSimpArgs false
namespace Go.Proofs.YtncpkblgiepdpaaGreat
open Go.RowKit Go.Maps Go.Shelf Go.Sort

section
variable {w : World} {own : Nat → Option Role} {d bn bk : Nat} {loc : Nat → Nat} {s : DS} {L : Nat → Prop}
set_option maxHeartbeats 4000000 in
set_option maxRecDepth 20000 in
theorem fall_any (hA : At w own d bn bk loc s (Ref s)) (A : Option Addr) (m c : Nat) (keep : List Int) (hl : keep.length = m) (hr : RdI w A keep) (h64 : In64 keep) (hO : 0 < keep.length → ∀ p, A = some p → own p.block = none) (hf : FallOk s keep) :
    Calls Tryz.prog 68 #[.pointer (some ⟨d, 0, none⟩), .slice A m c] w (fun e w' => e = .returned (.tuple #[]) ∧ ∃ own' bn', At w' own' d bn' bk loc (fallE s keep) (Ref (fallE s keep)) ∧ Kept w w' own own') := by
  obtain ⟨vw, b1, b2, b3⟩ := hA.blk
  have c6 := b1.cell 6 vw rfl
  obtain ⟨A6, m6, k6, rfl, hm6⟩ : ∃ A m c, vw = .slice A m c ∧ m = s.works.length := by
    rcases b2.2 with ⟨h1, h2⟩ | ⟨g, cap, cur, h1, _⟩
    · exact ⟨_, _, _, h1, by omega⟩
    · exact ⟨_, _, _, h1, rfl⟩
  have few := hf.few
  have hb0 : Calls Tryz.prog 119 #[.slice A m c, .int .i64 0, .int .i64 (m6 : Int)] w (GotV w (.int .i64 (brE keep 0 m6 : Nat))) := brought_any w A m c keep hl hr h64 0 m6 (by omega) (by omega)
  have hk := keepNames_gen hA (by omega) hf.short (manyE s keep) (brE_le _ _ _) hf.does
  have hmany : brE keep 0 m6 = manyE s keep := by rw [hm6]; rfl
  rw [hmany] at hb0
  have HF := Lib.hid hf
  have HL := Lib.hid hl
  have H64 := Lib.hid h64
  clear b1 b2 b3 hmany hf hl hm6 h64
  generalize hkn : manyE s keep = kn at *
  go_enter Tryz.func68, Tryz.ntmps68
  go_wp2_with (go_at_call 119; (with_reducible refine hb0.mono ?_); rintro e w ⟨rfl, rfl⟩)
  refine hk.mono ?_
  rintro e w1 ⟨rfl, own1, hA1, hK1⟩
  have hr1 : RdI w1 A keep := fun h0 => rdI_kept hr hK1 (hO h0) h0
  have c5 := hA1.cellD 5 _ fun _ => rfl
  clear c6
  obtain ⟨S1, hS1⟩ : ∃ S1, S1 = keepE s kn := ⟨_, rfl⟩
  have hkept : S1.kept = playK s kn := by rw [hS1]; exact keep_kept s kn
  have hlen1 : S1.files.length = s.files.length := by rw [hS1]; exact keep_len s kn
  rw [← hS1] at hA1
  have hf := HF.out
  have hok := hf.ok
  have hinj := hf.inj
  have hlk := hf.len
  rw [hkn, ← hkept, ← hlen1] at hok
  rw [hkn, ← hkept] at hinj hlk
  have hbb := byBirths_any w1 bk S1.files.length loc S1.kept hA1.keptM hok hinj (by omega) (fun p hp => by
    have hp2 := hok.2 p hp
    have hr2 := hf.ref p (by rw [hkn, ← hkept]; exact hp)
    obtain ⟨_, v, g1, _, _⟩ := hA1.file p.2 _ (List.getElem?_eq_getElem hp2) hr2
    exact g1.cell 0 _ rfl)
  generalize hids : idsE S1.files.length S1.kept = ids at *
  clear hok hinj hf
  go_wp2_with fail
  refine hbb.mono ?_
  rintro e w2 ⟨v, rfl, hov, hb2⟩
  have hA2 := hA1.below hb2
  have hK2 : Kept w w2 own own1 := hK1.trans (Kept.of_below hb2 own1)
  have hr2 := hr1.below hb2
  obtain ⟨Av, nv, kv, rfl, hnv⟩ : ∃ A n k, v = .slice A n k ∧ n = ids.length := by
    rcases hov.2 with ⟨h1, h2⟩ | ⟨g, cap, cur, h1, _⟩
    · exact ⟨_, _, _, h1, by omega⟩
    · exact ⟨_, _, _, h1, rfl⟩
  have hmrk : ∀ i ∈ ids, ∃ f, S1.files[i]? = some f ∧ f.mark ≤ f.data.length ∧ f.data.length ≤ 1099511627776 ∧ Ref s i := by
    intro i hi
    rw [← hids, mem_ids] at hi
    obtain ⟨hi1, p, hp, rfl⟩ := hi
    have hf1 := List.getElem?_eq_getElem hi1
    rw [hkept] at hp
    have hp2 : p ∈ playK s (manyE s keep) := by rw [hkn]; exact hp
    obtain ⟨g, hg, e1, e2⟩ := dm_at (fs := S1.files) (gs := s.files) (by rw [hS1]; exact keep_dm s kn) hf1
    refine ⟨_, hf1, by rw [← e1, ← e2]; exact HF.out.mrk p hp2 g hg, ?_, HF.out.ref p hp2⟩
    rw [← e1]
    exact Nat.le_trans (data_le hg) HF.out.fit
  have hcell : ∀ j (hj : j < ids.length), ∃ ad, Av = some ad ∧ ∀ wr, Kept w2 wr own1 own1 → wr.cell? (ad.add j) = some (fp (loc ids[j])) := by
    intro j hj
    rcases hov.2 with ⟨e, h2⟩ | ⟨g, cap, cur, e, hbase, hg, _⟩
    · omega
    · simp only [Value.slice.injEq] at e
      obtain ⟨rfl, _, _⟩ := e
      refine ⟨_, rfl, fun wr hK => ?_⟩
      have h1 := World.ownsRow.cells hov (g := g) rfl j (fp (loc ids[j])) (by simp [hj])
      have hb : ((⟨g, 0, none⟩ : Addr).add j).block = g := add_block _ _
      have hlt := cell_lt h1
      rw [← h1]
      unfold World.cell?
      rw [hK.block _ hlt (by
        rw [hb]
        cases e : own1 g with
        | none => rfl
        | some r => have := hA1.lt g r e; omega)]
  have hnd : ids.Nodup := by rw [← hids]; exact ids_nodup _ _
  have hnl : ids.length ≤ 1000000 := by
    have h1 : ids.Perm (S1.kept.map (·.2)) := by
      have h2 := HF.out.ok
      have h3 := HF.out.inj
      rw [hkn, ← hkept] at h3
      rw [hkn, ← hkept, ← hlen1] at h2
      rw [← hids]
      exact (ids_perm h2 h3 (List.Perm.refl _)).symm
    rw [h1.length_eq, List.length_map]
    exact hlk
  have hub : ∀ j, j ≤ ids.length → (cutsE keep S1.files 0 0 (ids.take j)).2 ≤ j * 1099511627776 := by
    intro j
    induction j with
    | zero => intro _; simp [cutsE]
    | succ j ih =>
      intro hj
      have hj2 : j < ids.length := by omega
      obtain ⟨f, hf1, hf2, hf3, _⟩ := hmrk _ (List.getElem_mem hj2)
      rw [(cuts_take hnd hj2 hf1).2]
      have := ih (by omega)
      have := cut_mark_le keep j hf2
      simp only
      omega
  have HMK := Lib.hid hmrk
  have HCL := Lib.hid hcell
  have HND := Lib.hid hnd
  have HUB := Lib.hid hub
  have HKE := Lib.hid hkept
  have HIDS := Lib.hid hids
  have HS1 := Lib.hid hS1
  have HNV := Lib.hid hnv
  clear hmrk hcell hnd hub hov hkept hids hS1 hK1 hA1 hbb hnv hlk hlen1
  have hnv : nv ≤ 1000000 := by rw [HNV.out]; exact hnl
  go_wp2
  go_loopw [4, 23] (fun u i wr => ∃ j : Nat, j ≤ nv ∧ i = .int .i64 (j : Int) ∧ u = .int .i64 (((cutsE keep S1.files 0 0 (ids.take j)).2 : Nat) : Int) ∧ At wr own1 d bn bk loc { S1 with files := (cutsE keep S1.files 0 0 (ids.take j)).1 } (Ref s) ∧ Kept w2 wr own1 own1) (fun _ i _ => nv - (intOf i).toNat)
  case atStart => exact ⟨0, Nat.zero_le _, rfl, rfl, hA2, Kept.refl _ _⟩
  case round =>
    obtain ⟨j, hj, rfl, rfl, hAj, hKj⟩ := hrel
    have hub1 := HUB.out j (by have := HNV.out; omega)
    by_cases hlt : j < nv
    · have hjl : j < ids.length := by rw [← HNV.out]; exact hlt
      obtain ⟨ad, rfl, hcl⟩ := HCL.out j hjl
      replace hcl := hcl _ hKj
      obtain ⟨f, hf1, hf2, hf3, hf4⟩ := HMK.out _ (List.getElem_mem hjl)
      obtain ⟨hcur, hnext⟩ := cuts_take (keep := keep) HND.out hjl hf1
      obtain ⟨o1, v', g1, g2, g3⟩ := hAj.file _ _ hcur hf4
      obtain ⟨A', n, c', rfl, hnl', hnc, hcm, hr'⟩ := g2.form
      have f1 := g1.cell 1 _ rfl
      have f2 := g1.cell 2 _ rfl
      have f3 := g1.cell 3 _ rfl
      have y1 := g1.free 1
      have y2 := g1.free 2
      have y3 := g1.free 3
      have hn' : n ≤ 1099511627776 := by have := hnl'.out; omega
      have hmn : f.mark ≤ n := by have := hnl'.out; omega
      have hbr : ∀ N, Calls Tryz.prog 119 #[.slice A m c, .int .i64 (1 + (j : Int)), .int .i64 ((n : Int) - (f.mark : Int))] (wr.drewN N) (fun e w' => e = .returned (.int .i64 (brE keep (1 + j) (f.data.length - f.mark) : Nat)) ∧ w' = wr.drewN N) := by
        intro N
        have h1 : RdI (wr.drewN N) A keep := fun h0 => rdI_kept hr2 (own' := own1) ⟨hKj.os, hKj.tape, hKj.output, hKj.size, hKj.block, hKj.more⟩ (fun p hp => by
          cases e : own1 p.block with
          | none => rfl
          | some r =>
            rcases hK2.more p.block (by rw [e]; simp) with h9 | h9
            · exact absurd (hO h0 p hp) h9
            · obtain ⟨ad, e8, h8⟩ := hr h0
              have h7 := cell_lt (h8 0 h0)
              rw [add_block] at h7
              rw [hp] at e8
              cases e8
              omega) h0
        have h2 := brought_any (wr.drewN N) A m c keep HL.out h1 H64.out (1 + j) (f.data.length - f.mark) (by omega) (by omega)
        have e1 : (((1 + j : Nat)) : Int) = 1 + (j : Int) := by omega
        have e2 : (((f.data.length - f.mark : Nat)) : Int) = (n : Int) - (f.mark : Int) := by have := hnl'.out; omega
        rw [e1, e2] at h2
        exact h2
      have hBle := brE_le keep (1 + j) (f.data.length - f.mark)
      have HNX := Lib.hid hnext
      have hcutE : f.cut keep j = ⟨f.data.take (f.mark + brE keep (1 + j) (f.data.length - f.mark)), f.mark + brE keep (1 + j) (f.data.length - f.mark), 2⟩ := rfl
      have HCE := Lib.hid hcutE
      clear hcutE hnext hf1
      generalize hB : brE keep (1 + j) (f.data.length - f.mark) = B at *
      generalize hU : (cutsE keep S1.files 0 0 (ids.take j)).2 = U at *
      have hBn : f.mark + B ≤ n := by have := hnl'.out; omega
      have wj : IntKind.i64.wrap (1 + (j : Int)) = 1 + (j : Int) := wrap_in _ (by omega) (by omega)
      have wn : IntKind.i64.wrap ((n : Int) - (f.mark : Int)) = (n : Int) - (f.mark : Int) := wrap_in _ (by omega) (by omega)
      have wb : IntKind.i64.wrap ((f.mark : Int) + (B : Int)) = (f.mark : Int) + (B : Int) := wrap_in _ (by omega) (by omega)
      have wu : IntKind.i64.wrap ((U : Int) + ((f.mark : Int) + (B : Int))) = (U : Int) + ((f.mark : Int) + (B : Int)) := wrap_in _ (by omega) (by omega)
      unfold fp at hcl
      clear hB hU
      go_wp2_with fail
      go_quiet ((go_at_call 119; exact Calls.quiet_of_same (hbr _)))
      go_wp2_with fail
      have hAd : At (wr.drewN nq) own1 d bn bk loc { S1 with files := (cutsE keep S1.files 0 0 (ids.take j)).1 } (Ref s) := hAj.below (bl_drewN (Below.refl _ _) nq)
      have hset := hAd.setCut (k := f.mark + B) hcur hf4 g1 g2 g3 o1 (by have := hnl'.out; omega)
      have e7 : (((f.mark + B : Nat)) : Int) = (f.mark : Int) + (B : Int) := by omega
      rw [e7] at hset
      refine ⟨⟨j + 1, by omega, by go_num, ?_, ?_, ?_⟩, by simp [intOf]; omega⟩
      · rw [HNX.out, HCE.out]
        simp only
        congr 1
      · rw [HNX.out, HCE.out]
        exact hset
      · have k1 : Kept w2 (wr.drewN nq) own1 own1 := ⟨hKj.os, hKj.tape, hKj.output, hKj.size, hKj.block, hKj.more⟩
        exact ((k1.set (by show own1 (loc ids[j]) ≠ none; rw [o1]; simp) _).set (by show own1 (loc ids[j]) ≠ none; rw [o1]; simp) _).set (by show own1 (loc ids[j]) ≠ none; rw [o1]; simp) _
    · have hjn : j = nv := by omega
      subst hjn
      have hjl : ids.take j = ids := List.take_of_length_le (by rw [HNV.out]; exact Nat.le_refl _)
      rw [hjl] at hAj
      rw [hjl]
      clear hlt hj hub1
      have hcl : ∀ W : World, MapAt W bk loc S1.kept → Calls Tryz.prog 121 #[.map (some bk)] W (fun e w' => e = .returned (.map (some W.heap.size)) ∧ MapAt w' W.heap.size loc S1.kept ∧ MapAt w' bk loc S1.kept ∧ Below W.heap.size W w') :=
        fun W h => AnyW.maps_Clone_owns Tryz.cloneMap 9 RP bk S1.kept.length (DM loc S1.kept) W h
      have hkm : MapAt wr.drew bk loc S1.kept := hAj.keptM
      obtain ⟨vw, b1, b2, b3⟩ := hAj.blk
      have c0 := b1.cell 0 _ rfl
      have c1 := b1.cell 1 _ rfl
      have c2 := b1.cell 2 _ rfl
      have c3 := b1.cell 3 _ rfl
      have c4 := b1.cell 4 _ rfl
      have c5 := b1.cell 5 _ rfl
      have c6 := b1.cell 6 _ rfl
      have c7 := b1.cell 7 _ rfl
      have HB1 := Lib.hid b1
      clear b1 b2 b3
      go_wp2_with fail
      have d1 : wr.drew.cell? ⟨d, 1, none⟩ = some (.int .i64 (S1.room : Int)) := c1
      have d3 : wr.drew.cell? ⟨d, 3, none⟩ = some (.int .i64 (((cutsE keep S1.files 0 0 ids).1.length : Nat) : Int)) := c3
      have d5 : wr.drew.cell? ⟨d, 5, none⟩ = some (.map (some bk)) := c5
      refine wp_region_held_drew (S := fun w' => w'.cell? ⟨d, 1, none⟩ = some (.int .i64 (S1.room : Int)) ∧ w'.cell? ⟨d, 3, none⟩ = some (.int .i64 (((cutsE keep S1.files 0 0 ids).1.length : Nat) : Int)) ∧ w'.cell? ⟨d, 5, none⟩ = some (.map (some bk))) (by kernel_rfl) ⟨d1, d3, d5⟩ (fun hHeld => ?_)
      refine wpAnyH_take (i := 0) (v := ?vz0) rfl (by kernel_rfl) (by kernel_rfl) (by kernel_rfl) (fun _ _ _ h => h) (Or.inl ⟨by rfl, ?yz0⟩) hHeld ?rz0
      case yz0 => (intro wS hSw; obtain ⟨hS1, hS3, hS5⟩ := hSw; go_simp; try (with_reducible rfl))
      try simp only [List.getElem_toArray, List.getElem_cons_zero, List.getElem_cons_succ, Act.put, List.setIfInBounds_toArray, List.set_cons_zero, List.set_cons_succ]
      refine wpAnyH_take (i := 1) (v := ?vz1) rfl (by kernel_rfl) (by kernel_rfl) (by kernel_rfl) (fun _ _ _ h => h) (Or.inl ⟨by rfl, ?yz1⟩) hHeld ?rz1
      case yz1 => (intro wS hSw; obtain ⟨hS1, hS3, hS5⟩ := hSw; go_simp; try (with_reducible rfl))
      try simp only [List.getElem_toArray, List.getElem_cons_zero, List.getElem_cons_succ, Act.put, List.setIfInBounds_toArray, List.set_cons_zero, List.set_cons_succ]
      refine wpAnyH_take (i := 2) (v := ?vz2) rfl (by kernel_rfl) (by kernel_rfl) (by kernel_rfl) (fun _ _ _ h => h) (Or.inl ⟨by rfl, ?yz2⟩) hHeld ?rz2
      case yz2 => (intro wS hSw; obtain ⟨hS1, hS3, hS5⟩ := hSw; go_simp; try (with_reducible rfl))
      try simp only [List.getElem_toArray, List.getElem_cons_zero, List.getElem_cons_succ, Act.put, List.setIfInBounds_toArray, List.set_cons_zero, List.set_cons_succ]
      refine wpAnyH_take (i := 3) (v := ?vz3) rfl (by kernel_rfl) (by kernel_rfl) (by kernel_rfl) (fun _ _ _ h => h) (Or.inl ⟨by rfl, ?yz3⟩) hHeld ?rz3
      case yz3 => (intro wS hSw; obtain ⟨hS1, hS3, hS5⟩ := hSw; go_simp; try (with_reducible rfl))
      try simp only [List.getElem_toArray, List.getElem_cons_zero, List.getElem_cons_succ, Act.put, List.setIfInBounds_toArray, List.set_cons_zero, List.set_cons_succ]
      refine wpAnyH_take (i := 4) (v := ?vz4) rfl (by kernel_rfl) (by kernel_rfl) (by kernel_rfl) (fun _ _ _ h => h) (Or.inl ⟨by rfl, ?yz4⟩) hHeld ?rz4
      case yz4 => (intro wS hSw; obtain ⟨hS1, hS3, hS5⟩ := hSw; go_simp; try (with_reducible rfl))
      try simp only [List.getElem_toArray, List.getElem_cons_zero, List.getElem_cons_succ, Act.put, List.setIfInBounds_toArray, List.set_cons_zero, List.set_cons_succ]
      refine wpAnyH_take (i := 5) (v := ?vz5) rfl (by kernel_rfl) (by kernel_rfl) (by kernel_rfl) (fun _ _ _ h => h) (Or.inl ⟨by rfl, ?yz5⟩) hHeld ?rz5
      case yz5 => (intro wS hSw; obtain ⟨hS1, hS3, hS5⟩ := hSw; go_simp; try (with_reducible rfl))
      try simp only [List.getElem_toArray, List.getElem_cons_zero, List.getElem_cons_succ, Act.put, List.setIfInBounds_toArray, List.set_cons_zero, List.set_cons_succ]
      refine wpAnyH_take (i := 6) (v := ?vz6) rfl (by kernel_rfl) (by kernel_rfl) (by kernel_rfl) (fun _ _ _ h => h) (Or.inl ⟨by rfl, ?yz6⟩) hHeld ?rz6
      case yz6 => (intro wS hSw; obtain ⟨hS1, hS3, hS5⟩ := hSw; go_simp; try (with_reducible rfl))
      try simp only [List.getElem_toArray, List.getElem_cons_zero, List.getElem_cons_succ, Act.put, List.setIfInBounds_toArray, List.set_cons_zero, List.set_cons_succ]
      refine wpAnyH_take (i := 7) (v := ?vz7) rfl (by kernel_rfl) (by kernel_rfl) (by kernel_rfl) (fun _ _ _ h => h) (Or.inl ⟨by rfl, ?yz7⟩) hHeld ?rz7
      case yz7 => (intro wS hSw; obtain ⟨hS1, hS3, hS5⟩ := hSw; go_simp; try (with_reducible rfl))
      try simp only [List.getElem_toArray, List.getElem_cons_zero, List.getElem_cons_succ, Act.put, List.setIfInBounds_toArray, List.set_cons_zero, List.set_cons_succ]
      refine wpAnyH_take (i := 8) (v := ?vz8) rfl (by kernel_rfl) (by kernel_rfl) (by kernel_rfl) (fun _ _ _ h => h) (Or.inl ⟨by rfl, ?yz8⟩) hHeld ?rz8
      case yz8 => (intro wS hSw; obtain ⟨hS1, hS3, hS5⟩ := hSw; go_simp; try (with_reducible rfl))
      try simp only [List.getElem_toArray, List.getElem_cons_zero, List.getElem_cons_succ, Act.put, List.setIfInBounds_toArray, List.set_cons_zero, List.set_cons_succ]
      refine wpAnyH_take (i := 9) (v := ?vz9) rfl (by kernel_rfl) (by kernel_rfl) (by kernel_rfl) (fun _ _ _ h => h) (Or.inl ⟨by rfl, ?yz9⟩) hHeld ?rz9
      case yz9 => (intro wS hSw; obtain ⟨hS1, hS3, hS5⟩ := hSw; go_simp; try (with_reducible rfl))
      try simp only [List.getElem_toArray, List.getElem_cons_zero, List.getElem_cons_succ, Act.put, List.setIfInBounds_toArray, List.set_cons_zero, List.set_cons_succ]
      refine wpAnyH_take (i := 10) (v := ?vz10) rfl (by kernel_rfl) (by kernel_rfl) (by kernel_rfl) (fun _ _ _ h => h) (Or.inl ⟨by rfl, ?yz10⟩) hHeld ?rz10
      case yz10 => (intro wS hSw; obtain ⟨hS1, hS3, hS5⟩ := hSw; go_simp; try (with_reducible rfl))
      try simp only [List.getElem_toArray, List.getElem_cons_zero, List.getElem_cons_succ, Act.put, List.setIfInBounds_toArray, List.set_cons_zero, List.set_cons_succ]
      refine wpAnyH_take (i := 11) (v := ?vz11) rfl (by kernel_rfl) (by kernel_rfl) (by kernel_rfl) (fun _ _ _ h => h) (Or.inl ⟨by rfl, ?yz11⟩) hHeld ?rz11
      case yz11 => (intro wS hSw; obtain ⟨hS1, hS3, hS5⟩ := hSw; go_simp; try (with_reducible rfl))
      try simp only [List.getElem_toArray, List.getElem_cons_zero, List.getElem_cons_succ, Act.put, List.setIfInBounds_toArray, List.set_cons_zero, List.set_cons_succ]
      refine wpAnyH_take (i := 12) (v := ?vz12) rfl (by kernel_rfl) (by kernel_rfl) (by kernel_rfl) (fun _ _ _ h => h) (Or.inl ⟨by rfl, ?yz12⟩) hHeld ?rz12
      case yz12 => (intro wS hSw; obtain ⟨hS1, hS3, hS5⟩ := hSw; go_simp; try (with_reducible rfl))
      try simp only [List.getElem_toArray, List.getElem_cons_zero, List.getElem_cons_succ, Act.put, List.setIfInBounds_toArray, List.set_cons_zero, List.set_cons_succ]
      refine wpAnyH_take (i := 13) (v := ?vz13) rfl (by kernel_rfl) (by kernel_rfl) (by kernel_rfl) (fun _ _ _ h => h) (Or.inl ⟨by rfl, ?yz13⟩) hHeld ?rz13
      case yz13 => (intro wS hSw; obtain ⟨hS1, hS3, hS5⟩ := hSw; go_simp; try (with_reducible rfl))
      try simp only [List.getElem_toArray, List.getElem_cons_zero, List.getElem_cons_succ, Act.put, List.setIfInBounds_toArray, List.set_cons_zero, List.set_cons_succ]
      refine wpAnyH_take (i := 15) (v := ?vz15) rfl (by kernel_rfl) (by kernel_rfl) (by kernel_rfl) (fun _ _ _ h => h) (Or.inl ⟨by rfl, ?yz15⟩) hHeld ?rz15
      case yz15 => (intro wS hSw; obtain ⟨hS1, hS3, hS5⟩ := hSw; go_simp; try (with_reducible rfl))
      try simp only [List.getElem_toArray, List.getElem_cons_zero, List.getElem_cons_succ, Act.put, List.setIfInBounds_toArray, List.set_cons_zero, List.set_cons_succ]
      refine wpAnyH_take (i := 16) (v := ?vz16) rfl (by kernel_rfl) (by kernel_rfl) (by kernel_rfl) (fun _ _ _ h => h) (Or.inl ⟨by rfl, ?yz16⟩) hHeld ?rz16
      case yz16 => (intro wS hSw; obtain ⟨hS1, hS3, hS5⟩ := hSw; go_simp; try (with_reducible rfl))
      try simp only [List.getElem_toArray, List.getElem_cons_zero, List.getElem_cons_succ, Act.put, List.setIfInBounds_toArray, List.set_cons_zero, List.set_cons_succ]
      refine wpAnyH_take (i := 17) (v := ?vz17) rfl (by kernel_rfl) (by kernel_rfl) (by kernel_rfl) (fun _ _ _ h => h) (Or.inl ⟨by rfl, ?yz17⟩) hHeld ?rz17
      case yz17 => (intro wS hSw; obtain ⟨hS1, hS3, hS5⟩ := hSw; go_simp; try (with_reducible rfl))
      try simp only [List.getElem_toArray, List.getElem_cons_zero, List.getElem_cons_succ, Act.put, List.setIfInBounds_toArray, List.set_cons_zero, List.set_cons_succ]
      refine wpAnyH_take (i := 18) (v := ?vz18) rfl (by kernel_rfl) (by kernel_rfl) (by kernel_rfl) (fun _ _ _ h => h) (Or.inl ⟨by rfl, ?yz18⟩) hHeld ?rz18
      case yz18 => (intro wS hSw; obtain ⟨hS1, hS3, hS5⟩ := hSw; go_simp; try (with_reducible rfl))
      try simp only [List.getElem_toArray, List.getElem_cons_zero, List.getElem_cons_succ, Act.put, List.setIfInBounds_toArray, List.set_cons_zero, List.set_cons_succ]
      refine wpAnyH_ready (rs := [14]) (by kernel_rfl) (by simp) (AllReadyH.cons rfl (fun K hK => ?_) AllReadyH.nil)
      go_simp
      go_at_call 121; refine (hcl wr.drew hkm).mono ?_
      rintro e w5 ⟨rfl, hm5, hk5, hb5⟩
      have b5 := HB1.out.same (hb5.block d HB1.out.lt)
      clear hHeld
      go_wp2_with fail
      refine hK.out _ _ ⟨b5.cell 1 _ rfl, b5.cell 3 _ rfl, b5.cell 5 _ rfl⟩ (fun hHeld => ?_)
      clear hK K
      try simp only [List.getElem_toArray, List.getElem_cons_zero, List.getElem_cons_succ, Act.put, List.setIfInBounds_toArray, List.set_cons_zero, List.set_cons_succ]
      refine wpAnyH_take (i := 19) (v := ?vz19) rfl (by kernel_rfl) (by kernel_rfl) (by kernel_rfl) (fun _ _ _ h => h) (Or.inl ⟨by rfl, ?yz19⟩) hHeld ?rz19
      case yz19 => (intro wS hSw; obtain ⟨hS1, hS3, hS5⟩ := hSw; go_simp; try (with_reducible rfl))
      try simp only [List.getElem_toArray, List.getElem_cons_zero, List.getElem_cons_succ, Act.put, List.setIfInBounds_toArray, List.set_cons_zero, List.set_cons_succ]
      refine wpAnyH_take (i := 20) (v := ?vz20) rfl (by kernel_rfl) (by kernel_rfl) (by kernel_rfl) (fun _ _ _ h => h) (Or.inl ⟨by rfl, ?yz20⟩) hHeld ?rz20
      case yz20 => (intro wS hSw; obtain ⟨hS1, hS3, hS5⟩ := hSw; go_simp; try (with_reducible rfl))
      try simp only [List.getElem_toArray, List.getElem_cons_zero, List.getElem_cons_succ, Act.put, List.setIfInBounds_toArray, List.set_cons_zero, List.set_cons_succ]
      refine wpAnyH_ready (rs := [21]) (by kernel_rfl) (by simp) (AllReadyH.cons rfl (fun K hK => ?_) AllReadyH.nil)
      have q0 := b5.cell 0 _ rfl; have z0 := b5.free 0; have q1 := b5.cell 1 _ rfl; have z1 := b5.free 1; have q2 := b5.cell 2 _ rfl; have z2 := b5.free 2; have q3 := b5.cell 3 _ rfl; have z3 := b5.free 3; have q4 := b5.cell 4 _ rfl; have z4 := b5.free 4; have q5 := b5.cell 5 _ rfl; have z5 := b5.free 5; have q6 := b5.cell 6 _ rfl; have z6 := b5.free 6; have q7 := b5.cell 7 _ rfl; have z7 := b5.free 7
      clear hHeld d1 d3 d5
      go_simp
      have B9 := (((((((b5.set 0 (.bool true)).set 1 (.int .i64 (S1.room : Int))).set 2 (.int .i64 (((cutsE keep S1.files 0 0 ids).2 : Nat) : Int))).set 3 (.int .i64 (((cutsE keep S1.files 0 0 ids).1.length : Nat) : Int))).set 4 (.map (some wr.heap.size))).set 5 (.map (some bk))).set 6 (.slice none 0 0)).set 7 (.pointer none)
      refine hK.out _ _ ⟨B9.cell 1 _ rfl, B9.cell 3 _ rfl, B9.cell 5 _ rfl⟩ (fun hHeld => ?_)
      clear hK K hHeld
      refine wpAnyH_done (by kernel_rfl) ?_ _
      go_wp2_with fail
      go_end0
      have hg9 := grown_trans (grown_trans (grown_trans (grown_trans (grown_trans (grown_trans (grown_trans (grown_set w5 ⟨d, 0, none⟩ (.bool true)) (grown_set _ ⟨d, 1, none⟩ (.int .i64 (S1.room : Int)))) (grown_set _ ⟨d, 2, none⟩ (.int .i64 (((cutsE keep S1.files 0 0 ids).2 : Nat) : Int)))) (grown_set _ ⟨d, 3, none⟩ (.int .i64 (((cutsE keep S1.files 0 0 ids).1.length : Nat) : Int)))) (grown_set _ ⟨d, 4, none⟩ (.map (some wr.heap.size)))) (grown_set _ ⟨d, 5, none⟩ (.map (some bk)))) (grown_set _ ⟨d, 6, none⟩ (.slice none 0 0))) (grown_set _ ⟨d, 7, none⟩ (.pointer none))
      have hfin := fall_end hkn HS1.out HIDS.out hK2 hKj hAj hb5 hm5 hk5 hg9 HF.out B9
      refine ⟨rfl, ?_⟩
      simpa using hfin
end
end Go.Proofs.YtncpkblgiepdpaaGreat
