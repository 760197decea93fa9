/- What the program's disk answers to Append: a contract over the translated program. No condition but that the disk lies in memory as said, and what each statement names. -/
import Derived.Test.YtncpkblgiepdpaaGreatDkG
set_option linter.unusedVariables false
namespace Go.Proofs.YtncpkblgiepdpaaGreat
open Go.RowKit Go.Maps

section
variable {w : World} {own : Nat → Option Role} {d bn bk : Nat} {loc : Nat → Nat} {s : DS} {L : Nat → Prop}

/-- A file's bytes are others: they may lie in a new block. -/
theorem At.setData (h : At w own d bn bk loc s L) (hI : DInv s) {i : Nat} {f : Fil} (hf : s.files[i]? = some f) (hL : L i) {w' : World} {v v' : Value} {l : BS}
    (g1 : Blk w (loc i) [.int .i64 (i : Int), .int .i64 (f.mark : Int), .int .i64 (f.named : Int), v] 135) (g3 : ∀ c, v.ownBlock = some c → own c = some (.data i))
    (hown : Own w' 0 v' l) (hg : w.grownBy w' v.ownBlock) (hb : v'.ownBlock = v.ownBlock ∨ v'.ownBlock = some w.heap.size) (o1 : own (loc i) = some (.file i)) :
    ∃ own', At (w'.setCell ⟨loc i, 3, none⟩ v') own' d bn bk loc { s with files := s.files.set i ⟨l, f.mark, f.named⟩ } L ∧ Kept w (w'.setCell ⟨loc i, 3, none⟩ v') own own' := by
  have hnew : own w.heap.size = none := by
    cases e : own w.heap.size with
    | none => rfl
    | some r => have := h.lt _ r e; omega
  have hlt := hown.lt
  obtain ⟨own', hm, hlt', hv', hold⟩ : ∃ own' : Nat → Option Role, (∀ b r, own b = some r → own' b = some r) ∧ (∀ b r, own' b = some r → b < w'.heap.size) ∧ (∀ c, v'.ownBlock = some c → own' c = some (.data i)) ∧ (∀ b, own' b ≠ none → own b ≠ none ∨ w.heap.size ≤ b) := by
    rcases hb with hb | hb
    · exact ⟨own, fun _ _ e => e, fun b r e => Nat.lt_of_lt_of_le (h.lt b r e) hg.size, fun c e => g3 c (hb ▸ e), fun _ e => .inl e⟩
    · refine ⟨setR own w.heap.size (.data i), setR_more (.inl hnew), fun b r e => ?_, fun c e => ?_, fun b e => ?_⟩
      · rcases setR_some e with e2 | e2
        · rw [e2]; exact (hlt _ hb).2
        · exact Nat.lt_of_lt_of_le (h.lt b r e2) hg.size
      · rw [hb] at e; cases e; exact setR_same _ _ _
      · by_cases e2 : b = w.heap.size
        · exact .inr (by omega)
        · rw [setR_other _ _ e2] at e; exact .inl e
  have hg2 := grown_set w' ⟨loc i, 3, none⟩ v'
  have B1 : Blk w' (loc i) [.int .i64 (i : Int), .int .i64 (f.mark : Int), .int .i64 (f.named : Int), v] 135 := g1.same (hg.block _ g1.lt fun e => by have := g3 _ e.symm; rw [o1] at this; cases this)
  refine ⟨own', ?_, ?_⟩
  · have no : ∀ b r, own b = some r → r ≠ .data i → some b ≠ v.ownBlock := fun b r e n e' => by have := g3 _ e'.symm; rw [this] at e; cases e; exact n rfl
    have no2 : ∀ b r, own b = some r → r ≠ .file i → some b ≠ some (loc i) := fun b r e n e' => by cases e'; rw [o1] at e; cases e; exact n rfl
    obtain ⟨vw, b1, b2, b3⟩ := h.blk
    refine ⟨hm _ _ h.rd, hm _ _ h.rn, hm _ _ h.rk, fun b r e => by have := hlt' b r e; simpa [World.setCell] using this, ⟨vw, ?_, ?_, fun c e => hm _ _ (b3 c e)⟩, ?_, ?_, ?_⟩
    · have e : diskCells { s with files := s.files.set i ⟨l, f.mark, f.named⟩ } bn bk vw = diskCells s bn bk vw := by simp [diskCells]
      rw [e]
      exact (b1.same (hg.block d b1.lt (no _ _ h.rd (by simp)))).same (hg2.block d (Nat.lt_of_lt_of_le b1.lt hg.size) (no2 _ _ h.rd (by simp)))
    · refine World.ownsRow.kept (World.ownsRow.kept b2 hg ?_) hg2 ?_
      · cases e : vw.ownBlock with
        | none => exact .inl rfl
        | some c => exact .inr (no _ _ (b3 c e) (by simp))
      · cases e : vw.ownBlock with
        | none => exact .inl rfl
        | some c => exact .inr (no2 _ _ (b3 c e) (by simp))
    · exact mapAt_grown (mapAt_grown h.nowM hg (no _ _ h.rn (by simp))) hg2 (no2 _ _ h.rn (by simp))
    · exact mapAt_grown (mapAt_grown h.keptM hg (no _ _ h.rk (by simp))) hg2 (no2 _ _ h.rk (by simp))
    · intro j g hj hLj
      simp only [List.getElem?_set] at hj
      by_cases e : i = j
      · subst e
        have hl := (List.getElem?_eq_some_iff.1 hf).1
        simp [hl] at hj
        subst hj
        refine ⟨hm _ _ o1, v', B1.set 3 v', hown.kept hg2 ?_, hv'⟩
        by_cases ev : v'.ownBlock = some (loc i)
        · have h1 := hv' _ ev
          rw [hm _ _ o1] at h1
          cases h1
        · exact .inr ev
      · simp [e] at hj
        obtain ⟨h1, u, h2, h3, h4⟩ := fileAt_grown (fileAt_grown (h.file j g hj hLj) hg fun c ec => by rw [g3 c ec]; simp [e]) hg2 fun c ec => by cases ec; rw [o1]; simp [e]
        exact ⟨hm _ _ h1, u, h2, h3, fun c ec => hm _ _ (h4 c ec)⟩
  · have k1 : Kept w w' own own' := ⟨hg.os, hg.tape, hg.output, hg.size, fun b hb hn => hg.block b hb (fun e => by rw [g3 _ e.symm] at hn; cases hn), hold⟩
    exact k1.set (by show own' (loc i) ≠ none; rw [hm _ _ o1]; simp) _

theorem append_any (hA : At w own d bn bk loc s (Ref s)) (hg : Good s) (hd : s.dead = false) (t : ByteArray) (ht : isN t = true) (A : Option Addr) (m c : Nat) (l : BS) (hm : l.length = m) (hr : Rd w A l)
    (hO : 0 < l.length → ∀ p, A = some p → own p.block = none) (hs : m ≤ 549755813888) (hroom : s.room ≤ 16777216) :
    Calls Tryz.prog 40 #[.pointer (some ⟨d, 0, none⟩), .string t, .slice A m c] w (GotA w own d (.int .i64 ((dE s ⟨0, t.data.toList, [], l⟩).2 : Nat)) (dE s ⟨0, t.data.toList, [], l⟩).1) := by
  have ht2 : t.size ≤ 281474976710656 := by
    unfold isN at ht
    simp at ht
    omega
  have hq := refusal_any hA hd
  have hin := isName_any t w (by unfold maxLen; omega)
  rw [ht] at hin
  have hbg := begun_any hA
  clear hd ht
  have c1 := hA.cellD 1 _ fun _ => rfl
  have c2 := hA.cellD 2 _ fun _ => rfl
  have c4 := hA.cellD 4 _ fun _ => rfl
  have hu : s.used ≤ 549755813888 := by
    have := hg.inv.nmd.2
    have := useE_le s.files
    have := hg.few
    unfold bulk at this
    omega
  have wr : IntKind.i64.wrap ((s.room : Int) - (s.used : Int)) = (s.room : Int) - (s.used : Int) := wrap_in _ (by omega) (by omega)
  by_cases hfit : s.used + l.length ≤ s.room
  · have tst : decide ((s.room : Int) - (s.used : Int) < (m : Int)) = false := by simp; omega
    have e1 : dE s ⟨0, t.data.toList, [], l⟩ = (appE s t.data.toList l, 0) := by simp only [dE, hfit, if_true]
    rw [e1]
    have hA1 := hA.drew
    have hbg := begun_any hA1
    have hne1 : ∀ i, own (loc i) = some (.file i) → d ≠ loc i := fun i o1 e => by have := hA.rd; rw [e, o1] at this; cases this
    cases hn : getE s.now t.data.toList with
    | some i =>
      have hl := hg.inv.now.get hn
      have hf : s.files[i]? = some s.files[i] := List.getElem?_eq_getElem hl
      have hL : Ref s i := ref_get hg.inv.now.1 hn
      have hlen := good_len hg hf
      obtain ⟨o1, v, g1, g2, g3⟩ := hA1.file i _ hf hL
      have hne := hne1 i o1
      have hne' : loc i ≠ d := fun e => hne e.symm
      obtain ⟨A', n, c', rfl, hnl, hnc, hcm, hr'⟩ := g2.form
      have HF := Lib.hid hfit
      have HM := Lib.hid hm
      have f3 := g1.cell 3 _ rfl
      have wu : IntKind.i64.wrap ((s.used : Int) + (m : Int)) = (s.used : Int) + (m : Int) := wrap_in _ (by omega) (by omega)
      have HG3 := Lib.hid g3
      clear g3 hfit hm
      go_enter Tryz.func40, Tryz.ntmps40
      go_wp2_with (first | (go_at_call 67; (with_reducible refine hq.mono ?_); rintro e w' ⟨rfl, rfl⟩) | (go_at_call 91; (with_reducible refine hin.mono ?_); rintro e w' ⟨rfl, rfl⟩))
      go_region
      go_wp2_with (first | (go_at_call 92; (with_reducible refine hbg.mono ?_); rintro e w' ⟨rfl, rfl⟩) | (at_lookup; refine wpList_lookup_ptr _ rfl _ _ rfl bn loc s.now rfl hA1.nowM t rfl (by unfold maxLen; omega) ?_; rw [hn]; simp only [Option.map_some, pv]) | (at_builtin; refine wpList_append_bytes _ rfl _ _ rfl 0 _ s.files[i].data rfl g2 A m c l rfl HM.out (hr.below (Below.refl _ _).drew) (by have := HM.out; omega) (Nat.zero_le _) ?_; intro v' w2 ho2 hg2 hb2; obtain ⟨A2, n2, k2, rfl, hnl2, hnc2, hcm2, hr2⟩ := ho2.form; obtain ⟨own2, hA2, hK2⟩ := hA1.setData hg.inv hf hL g1 HG3.out ho2 hg2 hb2 o1; have B2 := g1.same (hg2.block _ g1.lt (fun e => by have := HG3.out _ e.symm; rw [o1] at this; cases this)); have f3' := B2.cell 3 _ rfl; have y3' := B2.free 3; have hA2' := Lib.hid hA2; have c2' := hA2.cellD 2 _ fun _ => rfl; have z2' := hA2.freeD 2; clear hA2))
      go_ret
      have hl2 := HM.out
      have e2 : appE s t.data.toList l = { s with files := s.files.set i ⟨s.files[i].data ++ l, s.files[i].mark, s.files[i].named⟩, used := s.used + m } := by simp only [appE, hn, addE, hf, hl2]
      rw [e2]
      have hu2 : ((s.used : Int) + (m : Int)) = ((s.used + m : Nat) : Int) := by omega
      rw [hu2]
      exact ⟨rfl, own2, ⟨bn, bk, loc, hA2'.out.setUsed (s.used + m)⟩, ((Kept.refl _ _).drew.trans hK2).set (by rw [hA2'.out.rd]; simp) _⟩
    | none =>
      have hb := born_any hA1 hg (fun p hp => ref_now hp) t ht2
      have hBI := inv_born hg.inv t.data.toList
      have hBn : getE (bornE s t.data.toList).now t.data.toList = some s.files.length := by rw [born_now]; exact getE_put_same (srt_del hg.inv.now.1 _)
      have hBl := hBI.now.get hBn
      have hBf : (bornE s t.data.toList).files[s.files.length]? = some (bornE s t.data.toList).files[s.files.length] := List.getElem?_eq_getElem hBl
      have hsum : ((bornE s t.data.toList).files.map fun f => f.data.length).sum ≤ 549755813888 := by
        have h1 : Bnd s 549755813888 549755813888 := by
          have := hg.few
          unfold bulk at this
          exact ⟨by omega, by omega, by omega, by omega, by omega⟩
        exact (bnd_born h1 _).data
      have hlen := data_le hBf
      have huB : (bornE s t.data.toList).used ≤ 549755813888 := by
        have := hBI.nmd.2
        have := useE_le (bornE s t.data.toList).files
        omega
      have e2 : appE s t.data.toList l = addE (bornE s t.data.toList) s.files.length l := by simp only [appE, hn]
      have HE := Lib.hid e2
      clear e2
      obtain ⟨F, hF⟩ : ∃ F, F = (bornE s t.data.toList).files[s.files.length] := ⟨_, rfl⟩
      rw [← hF] at hBf hlen
      clear hF
      generalize hs1 : bornE s t.data.toList = s1 at *
      have hR : ∀ j, Ref s1 j → Ref s j ∨ j = s.files.length := fun j hj => ref_born (by rw [hs1]; exact hj)
      have HF := Lib.hid hfit
      have HM := Lib.hid hm
      have wu : IntKind.i64.wrap ((s1.used : Int) + (m : Int)) = (s1.used : Int) + (m : Int) := wrap_in _ (by omega) (by omega)
      have HS := Lib.hid hs1
      clear hfit hm hs1
      go_enter Tryz.func40, Tryz.ntmps40
      go_wp2_with (first | (go_at_call 67; (with_reducible refine hq.mono ?_); rintro e w' ⟨rfl, rfl⟩) | (go_at_call 91; (with_reducible refine hin.mono ?_); rintro e w' ⟨rfl, rfl⟩))
      go_region
      go_wp2_with (first | (go_at_call 92; (with_reducible refine hbg.mono ?_); rintro e w' ⟨rfl, rfl⟩) | (at_lookup; refine wpList_lookup_ptr _ rfl _ _ rfl bn loc s.now rfl hA1.nowM t rfl (by unfold maxLen; omega) ?_; rw [hn]; simp only [Option.map_none, pv]) | fail)
      refine hb.mono ?_
      rintro e w1 ⟨own1, loc1, rfl, hB1, hK1⟩
      have c1' := hB1.cellD 2 _ fun _ => rfl
      obtain ⟨o1, v, g1, g2, g3⟩ := hB1.file _ _ hBf (.inr rfl)
      have hne : d ≠ loc1 s.files.length := fun e => by have := hB1.rd; rw [e, o1] at this; cases this
      have hne' : loc1 s.files.length ≠ d := fun e => hne e.symm
      obtain ⟨A', n, c', rfl, hnl, hnc, hcm, hr'⟩ := g2.form
      have f3 := g1.cell 3 _ rfl
      have HG3 := Lib.hid g3
      have hr1 : Rd w1 A l := fun h0 => rd_kept (rd_kept hr (Kept.refl _ own).drew (hO h0)) hK1 (hO h0) h0
      simp only [pv, Option.map_some]
      clear g3 c1 c2 c4 tst wr
      go_wp2_with (at_builtin; refine wpList_append_bytes _ rfl _ _ rfl 0 _ F.data rfl g2 A m c l rfl HM.out hr1 (by have := HM.out; omega) (Nat.zero_le _) ?_; intro v' w2 ho2 hg2 hb2; obtain ⟨A2, n2, k2, rfl, hnl2, hnc2, hcm2, hr2⟩ := ho2.form; obtain ⟨own2, hA2, hK2⟩ := hB1.setData hBI hBf (.inr rfl) g1 HG3.out ho2 hg2 hb2 o1; have B2 := g1.same (hg2.block _ g1.lt (fun e => by have := HG3.out _ e.symm; rw [o1] at this; cases this)); have f3' := B2.cell 3 _ rfl; have y3' := B2.free 3; have hA2' := Lib.hid hA2; have c2' := hA2.cellD 2 _ fun _ => rfl; have z2' := hA2.freeD 2; clear hA2)
      go_ret
      have hl2 := HM.out
      have e2 : appE s t.data.toList l = { s1 with files := s1.files.set s.files.length ⟨F.data ++ l, F.mark, F.named⟩, used := s1.used + m } := by rw [HE.out]; simp only [addE, hBf, hl2]
      rw [e2]
      have hu2 : ((s1.used : Int) + (m : Int)) = ((s1.used + m : Nat) : Int) := by omega
      rw [hu2]
      refine ⟨rfl, own2, ⟨bn, bk, loc1, (hA2'.out.setUsed (s1.used + m)).less fun j hj => hR j hj⟩, (((Kept.refl _ _).drew.trans hK1).trans hK2).set (by rw [hA2'.out.rd]; simp) _⟩
  · have tst : decide ((s.room : Int) - (s.used : Int) < (m : Int)) = true := by simp; omega
    have e1 : dE s ⟨0, t.data.toList, [], l⟩ = (s, 52) := by simp only [dE, hfit, if_false]
    rw [e1]
    have HM := Lib.hid hm
    clear hm hfit
    go_enter Tryz.func40, Tryz.ntmps40
    go_wp2_with (first | (go_at_call 67; (with_reducible refine hq.mono ?_); rintro e w' ⟨rfl, rfl⟩) | (go_at_call 91; (with_reducible refine hin.mono ?_); rintro e w' ⟨rfl, rfl⟩))
    go_region
    all_goals
      go_wp2
      go_ret
      exact ⟨rfl, own, ⟨bn, bk, loc, hA.drew⟩, (Kept.refl _ _).drew⟩
end
end Go.Proofs.YtncpkblgiepdpaaGreat
