/- Open of a journal: found, the works in turn, and Open itself: contracts over the translated program. No condition but that the disk lies in memory as said, and what each statement names. -/
import Derived.Test.YtncpkblgiepdpaaGreatJoH
set_option linter.unusedVariables false
set_option linter.unusedSimpArgs false
namespace Go.Proofs.YtncpkblgiepdpaaGreat
open Go.RowKit Go.Maps Go.Shelf Go.Sort

/-- The name of a journal's file. -/
def jnB : ByteArray := ⟨#[106, 111, 117, 114, 110, 97, 108]⟩
theorem rd_some {s : DS} {a b : BS} (h : rdE s a = some b) : ∃ i f, getE s.now a = some i ∧ s.files[i]? = some f ∧ f.data = b := by
  unfold rdE at h
  cases hg : getE s.now a with
  | none => rw [hg] at h; cases h
  | some i =>
    rw [hg] at h
    cases hf : s.files[i]? with
    | none => simp [hf] at h
    | some f => simp [hf] at h; exact ⟨i, f, rfl, hf, h⟩
section
variable {w : World} {own : Nat → Option Role} {d : Nat} {s : DS} {k m r : Nat}

set_option maxHeartbeats 4000000 in
set_option maxRecDepth 40000 in
theorem found_any (hD : DiskIn w own d s) (hR : Run s k m r) (hk : k ≤ 1000) (hm : m ≤ 1000000) (hr : r ≤ 16777216) :
    Calls Tryz.prog 63 #[.pointer (some ⟨d, 0, none⟩)] w (fun e w' => ∃ v own', e = .returned (.tuple #[v, .int .i64 ((fndE s).2.2 : Nat)]) ∧ DiskIn w' own' d (fndE s).1 ∧ Kept w w' own own' ∧ Rows2 w' own' v (fndE s).2.1) := by
  obtain ⟨bn, bk, loc, hA⟩ := hD
  have hg := good_of hR.inv (hR.bnd.mono hk hm)
  have hfit : Fit s.files := by
    have := hR.bnd.data
    unfold Fit
    omega
  have hrd : Calls Tryz.prog 54 #[.pointer (some ⟨d, 0, none⟩), .string ⟨#[106, 111, 117, 114, 110, 97, 108]⟩] w (GotRead w (rdE s jn)) := read_any hA hR.inv.now hfit hR.live ⟨#[106, 111, 117, 114, 110, 97, 108]⟩ (by unfold maxLen; decide)
  have HF : Hid (fndE s = _) := Lib.hid (fndE.eq_1 s)
  cases hb : rdE s jn with
  | none =>
    rw [hb] at hrd
    have e0 : fndE s = ((dE s ⟨0, jn, [], []⟩).1, [], (dE s ⟨0, jn, [], []⟩).2) := by rw [HF.out, hb]
    rw [e0]
    clear e0 hb HF
    go_enter Tryz.func63, Tryz.ntmps63
    go_wp2_with fail
    refine hrd.mono ?_
    rintro e w1 ⟨v1, rfl, ho1, hb1⟩
    obtain ⟨A1, n1, c1, rfl, _, _, _, _⟩ := ho1.form
    have hA1 := hA.below hb1
    have happ : Calls Tryz.prog 40 #[.pointer (some ⟨d, 0, none⟩), .string ⟨#[106, 111, 117, 114, 110, 97, 108]⟩, .slice none 0 0] w1 (GotA w1 own d (.int .i64 ((dE s ⟨0, jn, [], []⟩).2 : Nat)) (dE s ⟨0, jn, [], []⟩).1) :=
      append_any hA1 hg hR.live ⟨#[106, 111, 117, 114, 110, 97, 108]⟩ rfl none 0 0 [] rfl (Rd.nil _ _) (fun h => by simp at h) (by omega) (by rw [hR.room]; exact hr)
    go_wp2_with fail
    refine happ.mono ?_
    rintro e w2 ⟨rfl, own2, hD2, hK2⟩
    go_wp2_with fail
    go_ret2
    exact ⟨_, own2, rfl, hD2, (Kept.of_below hb1 own).trans hK2, Rows2.nil _ _⟩
  | some b =>
    rw [hb] at hrd
    obtain ⟨i, f, hgi, hf, hfd⟩ := rd_some hb
    have hbl : b.length ≤ 1000000 := by
      have := data_le hf
      have := hR.bnd.data
      rw [hfd] at *
      omega
    have HF2 : Hid (fndE s = if (recsE b).2.2 ≠ 0 then (s, [], (recsE b).2.2) else if (recsE b).2.1 = b.length then (s, (recsE b).1, 0) else (cutE s i (recsE b).2.1, (recsE b).1, 0)) := by
      refine Lib.hid ?_
      rw [HF.out, hb]
      simp only [hgi]
    have HGI := Lib.hid hgi
    have HFD := Lib.hid hfd
    have HFF := Lib.hid hf
    have hend := recsE_end b
    clear hb HF hgi hfd hf
    rcases recsE_err b with h0 | h0
    · by_cases hee : (recsE b).2.1 = b.length
      · have e0 : fndE s = (s, (recsE b).1, 0) := by rw [HF2.out, if_neg (by rw [h0]; simp), if_pos hee]
        rw [e0]
        have H0 := Lib.hid h0
        have HEE := Lib.hid hee
        clear e0 h0 hee HF2 hend
        go_enter Tryz.func63, Tryz.ntmps63
        go_wp2_with fail
        refine hrd.mono ?_
        rintro e w1 ⟨v1, rfl, ho1, hb1⟩
        obtain ⟨A1, c1, rfl, hc1, hc2, hr1⟩ := ho1.shape
        simp only [Option.getD_some] at hc1 hc2 hr1
        have hrec := records_any A1 b.length c1 b w1 rfl hr1 hc1 hc2 (by omega)
        rw [H0.out, HEE.out] at hrec
        have HA1 := Lib.hid (hA.below hb1)
        clear ho1
        go_wp2_with fail
        refine hrec.mono ?_
        rintro e w2 ⟨v2, vals, rfl, ho2, hv2, hb2⟩
        have hrows := rows_of (d := d) (s := s) ⟨bn, bk, loc, HA1.out⟩ ho2 hv2
        obtain ⟨Av, cv, rfl⟩ := rowForm ho2
        have HRO := Lib.hid hrows
        have hbb := bl_trans hb1 hb2
        have HB := Lib.hid hbb
        clear ho2 hv2 hrec hrows
        go_wp2_with fail
        go_ret2
        exact ⟨_, own, rfl, ⟨bn, bk, loc, hA.below HB.out⟩, Kept.of_below HB.out own, HRO.out⟩
      · have e0 : fndE s = (cutE s i (recsE b).2.1, (recsE b).1, 0) := by rw [HF2.out, if_neg (by rw [h0]; simp), if_neg hee]
        rw [e0]
        have H0 := Lib.hid h0
        obtain ⟨q, hq⟩ : ∃ q, q = (recsE b).2.1 := ⟨_, rfl⟩
        rw [← hq] at hee hend ⊢
        have HQ := Lib.hid hq
        have d1 : ((q : Int) == (b.length : Int)) = false := by simp; omega
        clear e0 h0 HF2 hq hee
        go_enter Tryz.func63, Tryz.ntmps63
        go_wp2_with fail
        refine hrd.mono ?_
        rintro e w1 ⟨v1, rfl, ho1, hb1⟩
        obtain ⟨A1, c1, rfl, hc1, hc2, hr1⟩ := ho1.shape
        simp only [Option.getD_some] at hc1 hc2 hr1
        have hrec := records_any A1 b.length c1 b w1 rfl hr1 hc1 hc2 (by omega)
        rw [H0.out, ← HQ.out] at hrec
        have HA1 := Lib.hid (hA.below hb1)
        clear ho1
        go_wp2_with fail
        refine hrec.mono ?_
        rintro e w2 ⟨v2, vals, rfl, ho2, hv2, hb2⟩
        have hrows := rows_of (d := d) (s := s) ⟨bn, bk, loc, HA1.out⟩ ho2 hv2
        obtain ⟨Av, cv, rfl⟩ := rowForm ho2
        have HRO := Lib.hid hrows
        have hbb := bl_trans hb1 hb2
        have HB := Lib.hid hbb
        have hct := cut_any (hA.below hbb) hg hR.live ⟨#[106, 111, 117, 114, 110, 97, 108]⟩ (by unfold maxLen; decide) q i f HGI.out HFF.out (by rw [HFD.out]; exact hend)
        clear ho2 hv2 hrec hrows
        go_wp2_with fail
        refine hct.mono ?_
        rintro e w3 ⟨rfl, own3, hD3, hK3⟩
        go_wp2_with fail
        go_ret2
        exact ⟨_, own3, rfl, hD3, (Kept.of_below HB.out own).trans hK3, HRO.out.kept hK3⟩
    · have e0 : fndE s = (s, [], 70) := by rw [HF2.out, if_pos (by rw [h0]; simp), h0]
      rw [e0]
      have H0 := Lib.hid h0
      clear e0 h0 HF2 hend
      go_enter Tryz.func63, Tryz.ntmps63
      go_wp2_with fail
      refine hrd.mono ?_
      rintro e w1 ⟨v1, rfl, ho1, hb1⟩
      obtain ⟨A1, c1, rfl, hc1, hc2, hr1⟩ := ho1.shape
      simp only [Option.getD_some] at hc1 hc2 hr1
      have hrec := records_any A1 b.length c1 b w1 rfl hr1 hc1 hc2 (by omega)
      rw [H0.out] at hrec
      clear ho1
      have hnil : (recsE b).1 = [] := by
        rcases recsF_err (b.length + 1) b 1 with h | h
        · have h9 : (recsE b).2.2 = 0 := h
          rw [h9] at H0
          exact absurd H0.out (by decide)
        · have h9 : recsE b = ([], 0, (recsE b).2.2) := h
          rw [h9]
      have HA1 := Lib.hid (hA.below hb1)
      go_wp2_with fail
      refine hrec.mono ?_
      rintro e w2 ⟨v2, vals, rfl, ho2, hv2, hb2⟩
      have hrows := rows_of (d := d) (s := s) ⟨bn, bk, loc, HA1.out⟩ ho2 hv2
      rw [hnil] at hrows
      obtain ⟨Av, cv, rfl⟩ := rowForm ho2
      have HRO := Lib.hid hrows
      have HB := Lib.hid (bl_trans hb1 hb2)
      clear ho2 hv2 hrec hrows
      go_wp2_with fail
      go_ret2
      have hfin := HRO.out
      rw [hnil] at hfin
      exact ⟨.slice Av 0 cv, own, rfl, ⟨bn, bk, loc, hA.below HB.out⟩, Kept.of_below HB.out own, hfin⟩
/-- The journal's struct in memory. -/
def JIn (w : World) (own : Nat → Option Role) (J d : Nat) (cnt kp : Nat) (br : Bool) : Prop := Blk w J [.pointer (some ⟨d, 0, none⟩), .int .i64 (cnt : Int), .int .i64 (kp : Int), .bool br] 107 ∧ own J = none
theorem JIn.kept {w w' : World} {own own' : Nat → Option Role} {J d cnt kp : Nat} {br : Bool} (h : JIn w own J d cnt kp br) (hK : Kept w w' own own') : JIn w' own' J d cnt kp br := ⟨h.1.same (hK.block J h.1.lt h.2), free_kept hK h.1.lt h.2⟩

/-- What the works of Open share: the disk's variable, the records' one. -/
structure Box (w : World) (own : Nat → Option Role) (p q d : Nat) (v : Value) : Prop where
  bp : Blk w p [.pointer (some ⟨d, 0, none⟩)] 36
  bq : Blk w q [v] 27
  np : own p = none
  nq : own q = none
  pq : p ≠ q
theorem Box.kept {w w' : World} {own own' : Nat → Option Role} {p q d : Nat} {v : Value} (h : Box w own p q d v) (hK : Kept w w' own own') : Box w' own' p q d v :=
  ⟨h.bp.same (hK.block p h.bp.lt h.np), h.bq.same (hK.block q h.bq.lt h.nq), free_kept hK h.bp.lt h.np, free_kept hK h.bq.lt h.nq, h.pq⟩

theorem open1_any {p q : Nat} {v : Value} (hB : Box w own p q d v) (hD : DiskIn w own d s) (hR : Run s k m r) (hk : k ≤ 1000) (hm : m ≤ 1000000) :
    Calls Tryz.prog 60 #[.pointer (some ⟨p, 0, none⟩)] w (GotA w own d (.int .i64 0) (clrE s)) := by
  have hq := cleared_any hD hR hk hm
  have c0 := hB.bp.cell 0 _ rfl
  go_enter Tryz.func60, Tryz.ntmps60
  go_wp2_with fail
  refine hq.mono ?_
  rintro e w1 ⟨rfl, own1, hD1, hK1⟩
  go_wp2_with fail
  go_ret
  exact ⟨rfl, own1, hD1, hK1⟩
theorem open2_any {p q : Nat} {v : Value} (hB : Box w own p q d v) (hD : DiskIn w own d s) (hR : Run s k m r) (hk : k ≤ 1000) (hm : m ≤ 1000000) (hr : r ≤ 16777216) (a : World) (o : Nat → Option Role) (ha : a.heap.size ≤ q) (hKa : Kept a w o own) (g : Nat) (gc : List Value) (gt : TypeId) (hG : Blk w g gc gt) (hgn : own g = none) (hgq : g ≠ q) :
    Calls Tryz.prog 62 #[.pointer (some ⟨p, 0, none⟩), .pointer (some ⟨q, 0, none⟩)] w (fun e w' => ∃ v' own', e = .returned (.int .i64 ((fndE s).2.2 : Nat)) ∧ DiskIn w' own' d (fndE s).1 ∧ Box w' own' p q d v' ∧ Rows2 w' own' v' (fndE s).2.1 ∧ Kept a w' o own' ∧ Blk w' g gc gt ∧ own' g = none) := by
  have hq := found_any hD hR hk hm hr
  have c0 := hB.bp.cell 0 _ rfl
  go_enter Tryz.func62, Tryz.ntmps62
  go_wp2_with fail
  refine hq.mono ?_
  rintro e w1 ⟨v1, own1, rfl, hD1, hK1, hr1⟩
  have hB1 := hB.kept hK1
  have y0 := hB1.bq.cell 0 _ rfl
  have z0 := hB1.bq.free 0
  have HR := Lib.hid hr1
  have HD1 := Lib.hid hD1
  have HB1 := Lib.hid hB1
  obtain ⟨A1, c1, rfl, h1, h2, h3⟩ := hr1
  clear h1 h2 h3 hD1 hB1
  go_wp2_with fail
  go_ret
  have hg := grown_set w1 ⟨q, 0, none⟩ (.slice A1 (fndE s).2.1.length c1)
  obtain ⟨bn, bk, loc, hA1⟩ := HD1.out
  refine ⟨.slice A1 (fndE s).2.1.length c1, own1, rfl, ⟨bn, bk, loc, hA1.grown hg fun c e => by cases e; exact HB1.out.nq⟩, ?_, rows_set HR.out ⟨_, _, HB1.out.bq⟩ _, (hKa.trans hK1).setNew ha _, (hG.same (hK1.block g hG.lt hgn)).same (hg.block g (Nat.lt_of_lt_of_le hG.lt hK1.size) (by simp; exact hgq)), free_kept hK1 hG.lt hgn⟩
  refine ⟨HB1.out.bp.same (hg.block p HB1.out.bp.lt (by simp; exact HB1.out.pq)), ?_, HB1.out.np, HB1.out.nq, HB1.out.pq⟩
  exact HB1.out.bq.set 0 _
theorem open3_any {p q : Nat} {v : Value} (hB : Box w own p q d v) (hD : DiskIn w own d s) (hR : Run s k m r) (hk : k ≤ 1000) (hm : m ≤ 1000000) :
    Calls Tryz.prog 64 #[.pointer (some ⟨p, 0, none⟩)] w (GotA w own d (.int .i64 ((dE s ⟨1, jn, [], []⟩).2 : Nat)) (dE s ⟨1, jn, [], []⟩).1) := by
  obtain ⟨bn, bk, loc, hA⟩ := hD
  have hq : Calls Tryz.prog 65 #[.pointer (some ⟨d, 0, none⟩), .string ⟨#[106, 111, 117, 114, 110, 97, 108]⟩] w (GotA w own d (.int .i64 ((dE s ⟨1, jn, [], []⟩).2 : Nat)) (dE s ⟨1, jn, [], []⟩).1) :=
    sync_any hA (good_of hR.inv (hR.bnd.mono hk hm)) hR.live ⟨#[106, 111, 117, 114, 110, 97, 108]⟩ (by unfold maxLen; decide)
  have c0 := hB.bp.cell 0 _ rfl
  go_enter Tryz.func64, Tryz.ntmps64
  go_wp2_with fail
  refine hq.mono ?_
  rintro e w1 ⟨rfl, own1, hD1, hK1⟩
  go_wp2_with fail
  go_ret
  exact ⟨rfl, own1, hD1, hK1⟩
theorem open4_any (hD : DiskIn w own d s) (hR : Run s k m r) (hk : k ≤ 1000) (hm : m ≤ 1000000) :
    Calls Tryz.prog 66 #[.pointer (some ⟨d, 0, none⟩)] w (GotA w own d (.int .i64 0) (dE s ⟨4, [], [], []⟩).1) := by
  obtain ⟨bn, bk, loc, hA⟩ := hD
  exact keepNames_in hA (good_of hR.inv (hR.bnd.mono hk hm)) hR.short hR.live
/-- Behind what was found there is a file. -/
theorem fnd_sync {s : DS} {k m r : Nat} (hR : Run s k m r) (h : (fndE s).2.2 = 0) : (dE (fndE s).1 ⟨1, jn, [], []⟩).2 = 0 := by
  have key : ∀ {t : DS} {i : Nat}, getE t.now jn = some i → (dE t ⟨1, jn, [], []⟩).2 = 0 := fun {t i} hg => by simp only [dE, hg]
  unfold fndE at h ⊢
  cases hb : rdE s jn with
  | none =>
    rw [hb] at h
    simp only at h ⊢
    by_cases hroom : s.used + ([] : BS).length ≤ s.room
    · have e : dE s ⟨0, jn, [], []⟩ = (appE s jn [], 0) := by simp only [dE, hroom, if_true]
      rw [e]
      have hr := rd_app hR.inv jn [] (by simp [jn]) jn (by simp [jn])
      rw [if_pos rfl] at hr
      obtain ⟨i, f, hg, _⟩ := rd_some hr
      exact key hg
    · have e : dE s ⟨0, jn, [], []⟩ = (s, 52) := by simp only [dE, hroom, if_false]
      rw [e] at h
      cases h
  | some b =>
    obtain ⟨i, f, hg, hf, hfd⟩ := rd_some hb
    rw [hb] at h
    simp only [hg] at h ⊢
    split at h
    · rename_i h1
      exact absurd h h1
    · split
      · rename_i h1 h2
        exact absurd h2 h1
      · split
        · exact key hg
        · exact key (by rw [cut_now]; exact hg)
end
open Go.RowKit Go.Maps Go.Shelf Go.Sort

/-- Where the works of Open stand behind the first k of them. -/
def OpnAt (s : DS) (k : Nat) (S : DS) (l : List BS) : Prop :=
  (k = 0 ∧ S = s ∧ l = []) ∨ (k = 1 ∧ S = clrE s ∧ l = []) ∨ (k = 2 ∧ S = (fndE (clrE s)).1 ∧ l = (fndE (clrE s)).2.1 ∧ (fndE (clrE s)).2.2 = 0) ∨
  (k = 3 ∧ S = (dE (fndE (clrE s)).1 ⟨1, jn, [], []⟩).1 ∧ l = (fndE (clrE s)).2.1 ∧ (fndE (clrE s)).2.2 = 0) ∨ (k = 4 ∧ S = (opnE s).1 ∧ l = (opnE s).2.1 ∧ (opnE s).2.2 = 0)
theorem opn_ok {s : DS} (h : (fndE (clrE s)).2.2 = 0) : opnE s = ((dE (dE (fndE (clrE s)).1 ⟨1, jn, [], []⟩).1 ⟨4, [], [], []⟩).1, (fndE (clrE s)).2.1, 0) := by unfold opnE; rw [if_pos h]
theorem opn_bad {s : DS} (h : (fndE (clrE s)).2.2 ≠ 0) : opnE s = ((fndE (clrE s)).1, [], (fndE (clrE s)).2.2) := by unfold opnE; rw [if_neg h]
/-- The four works. -/
def opnF (p q d : Nat) : List Value := [.func (.func 60) #[] #[.pointer (some ⟨p, 0, none⟩)], .func (.func 62) #[] #[.pointer (some ⟨p, 0, none⟩), .pointer (some ⟨q, 0, none⟩)],
  .func (.func 64) #[] #[.pointer (some ⟨p, 0, none⟩)], .func (.func 66) #[.pointer (some ⟨d, 0, none⟩)] #[]]
section
variable {w : World} {own : Nat → Option Role} {d : Nat} {s : DS} {k m r : Nat}
set_option maxHeartbeats 4000000 in
set_option maxRecDepth 40000 in
theorem turn_open {p q g : Nat} (hB : Box w own p q d (.slice none 0 0)) (hD : DiskIn w own d s) (hR : Run s k m r) (hk : k ≤ 900) (hm : m ≤ 1000000) (hr : r ≤ 16777216) (a : World) (o : Nat → Option Role) (ha : a.heap.size ≤ q) (hKa : Kept a w o own) (gt : TypeId) (hG : Blk w g (opnF p q d) gt) (hgn : own g = none) (hgq : g ≠ q) :
    Calls Tryz.prog 59 #[.slice (some ⟨g, 0, none⟩) 4 4] w (fun e w' => ∃ v own', e = .returned (.int .i64 ((opnE s).2.2 : Nat)) ∧ DiskIn w' own' d (opnE s).1 ∧ Box w' own' p q d v ∧ Kept a w' o own' ∧ ((opnE s).2.2 = 0 → Rows2 w' own' v (opnE s).2.1)) := by
  have hR1 := run_clr hR
  have hR2 := run_fnd hR1
  have hR3 := run_d hR2 (x := ⟨1, jn, [], []⟩) ⟨by show 7 ≤ 40; omega, by show 0 ≤ 40; omega⟩
  go_enter Tryz.func59, Tryz.ntmps59
  go_wp2_with fail
  go_loopw [8] (fun i wr => ∃ (j : Nat) (S : DS) (l : List BS) (v : Value) (own' : Nat → Option Role), i = .int .i64 (j : Int) ∧ OpnAt s j S l ∧ DiskIn wr own' d S ∧ Box wr own' p q d v ∧ Kept a wr o own' ∧ Blk wr g (opnF p q d) gt ∧ own' g = none ∧ Rows2 wr own' v l) (fun i _ => 4 - (intOf i).toNat)
  case atStart => exact ⟨0, s, [], .slice none 0 0, own, rfl, .inl ⟨rfl, rfl, rfl⟩, hD, hB, hKa, hG, hgn, Rows2.nil _ _⟩
  case round =>
    clear hB hD hKa hG hgn
    obtain ⟨j, S, l, v, own', rfl, hAt, hD, hB, hKa, hG, hgn, hRo⟩ := hrel
    rcases hAt with ⟨rfl, rfl, rfl⟩ | ⟨rfl, rfl, rfl⟩ | ⟨rfl, rfl, rfl, h0⟩ | ⟨rfl, rfl, rfl, h0⟩ | ⟨rfl, rfl, rfl, h0⟩
    · have c0 := hG.cell 0 _ rfl
      have hq := open1_any hB hD hR (by omega) hm
      go_wp2_with fail
      refine hq.mono ?_
      rintro e w1 ⟨rfl, own1, hD1, hK1⟩
      have hB1 := hB.kept hK1
      have hG1 := hG.same (hK1.block g hG.lt hgn)
      have hgn1 := free_kept hK1 hG.lt hgn
      have hRo1 := hRo.kept hK1
      clear hB hD hG hRo
      go_wp2_with fail
      exact ⟨⟨1, _, _, v, own1, by go_num, .inr (.inl ⟨rfl, rfl, rfl⟩), hD1, hB1, hKa.trans hK1, hG1, hgn1, hRo1⟩, by simp [intOf]⟩
    · have c0 := hG.cell 1 _ rfl
      have hq := open2_any hB hD hR1 (by omega) hm hr a o ha hKa g _ gt hG hgn hgq
      by_cases h0 : (fndE (clrE s)).2.2 = 0
      · rw [h0] at hq
        clear hB hD hG hRo
        go_wp2_with fail
        refine hq.mono ?_
        rintro e w1 ⟨v1, own1, rfl, hD1, hB1, hr1, hK1, hG1, hgn1⟩
        go_wp2_with fail
        exact ⟨⟨2, _, _, v1, own1, by go_num, .inr (.inr (.inl ⟨rfl, rfl, rfl, h0⟩)), hD1, hB1, hK1, hG1, hgn1, hr1⟩, by simp [intOf]⟩
      · have eb := opn_bad h0
        have hne : ((((fndE (clrE s)).2.2 : Nat) : Int) != 0) = true := by simp; omega
        have EB := Lib.hid eb
        have H0 := Lib.hid h0
        obtain ⟨z, hz⟩ : ∃ z : Nat, z = (fndE (clrE s)).2.2 := ⟨_, rfl⟩
        rw [← hz] at hq hne
        have HZ := Lib.hid hz
        clear hB hD hG hRo h0 eb hz
        go_wp2_with fail
        refine hq.mono ?_
        rintro e w1 ⟨v1, own1, rfl, hD1, hB1, hr1, hK1, hG1, hgn1⟩
        go_wp2_with fail
        go_ret
        rw [EB.out]
        exact ⟨v1, own1, by rw [HZ.out]; rfl, hD1, hB1, hK1, fun h => absurd h H0.out⟩
    · have c0 := hG.cell 2 _ rfl
      have hq := open3_any hB hD hR2 (by omega) hm
      rw [fnd_sync hR1 h0] at hq
      go_wp2_with fail
      refine hq.mono ?_
      rintro e w1 ⟨rfl, own1, hD1, hK1⟩
      have hB1 := hB.kept hK1
      have hG1 := hG.same (hK1.block g hG.lt hgn)
      have hgn1 := free_kept hK1 hG.lt hgn
      have hRo1 := hRo.kept hK1
      clear hB hD hG hRo
      go_wp2_with fail
      exact ⟨⟨3, _, _, v, own1, by go_num, .inr (.inr (.inr (.inl ⟨rfl, rfl, rfl, h0⟩))), hD1, hB1, hKa.trans hK1, hG1, hgn1, hRo1⟩, by simp [intOf]⟩
    · have c0 := hG.cell 3 _ rfl
      have hq := open4_any hD hR3 (by omega) hm
      have eo := opn_ok h0
      go_wp2_with fail
      refine hq.mono ?_
      rintro e w1 ⟨rfl, own1, hD1, hK1⟩
      have hB1 := hB.kept hK1
      have hG1 := hG.same (hK1.block g hG.lt hgn)
      have hgn1 := free_kept hK1 hG.lt hgn
      have hRo1 := hRo.kept hK1
      have EO := Lib.hid eo
      clear hB hD hG hRo eo
      go_wp2_with fail
      exact ⟨⟨4, _, _, v, own1, by go_num, .inr (.inr (.inr (.inr ⟨rfl, by rw [EO.out], by rw [EO.out], by rw [EO.out]⟩))), hD1, hB1, hKa.trans hK1, hG1, hgn1, hRo1⟩, by simp [intOf]⟩
    · go_wp2_with fail
      go_ret
      exact ⟨v, own', by rw [h0]; rfl, hD, hB, hKa, fun _ => hRo⟩
/-- What Open of a journal leaves. -/
def GotOpn (w : World) (own : Nat → Option Role) (d : Nat) (s : DS) (e : Ending) (w' : World) : Prop :=
  ((opnE s).2.2 ≠ 0 ∧ e = .returned (.tuple #[.pointer none, .slice none 0 0, .int .i64 ((opnE s).2.2 : Nat)]) ∧ ∃ own', DiskIn w' own' d (opnE s).1 ∧ Kept w w' own own') ∨
  ((opnE s).2.2 = 0 ∧ ∃ J v own', e = .returned (.tuple #[.pointer (some ⟨J, 0, none⟩), v, .int .i64 0]) ∧ DiskIn w' own' d (opnE s).1 ∧ Kept w w' own own' ∧ w.heap.size ≤ J ∧ JIn w' own' J d (opnE s).2.1.length (opnE s).2.1.length false ∧ Rows2 w' own' v (opnE s).2.1)
set_option maxHeartbeats 4000000 in
set_option maxRecDepth 40000 in
theorem open_any (hD : DiskIn w own d s) (hR : Run s k m r) (hk : k ≤ 900) (hm : m ≤ 1000000) (hr : r ≤ 16777216) :
    Calls Tryz.prog 20 #[.pointer (some ⟨d, 0, none⟩)] w (GotOpn w own d s) := by
  have hmf : ∀ (fn : Fn) (first cap : Array Value) (w : World), (Instr.makeFunc fn first cap).run Tryz.prog w = .ok (.func fn first cap) w := fun _ _ _ _ => rfl
  go_enter Tryz.func20, Tryz.ntmps20
  go_wp2_with fail
  have hN : ∀ j, w.heap.size ≤ j → own j = none := fun j hj => own_new hD hj
  obtain ⟨W, hWe, bp, bq, bg, hbl⟩ : ∃ W, W = (((w.alloc (.cells #[.pointer (some ⟨d, 0, none⟩)] 36)).alloc (.cells #[.slice none 0 0] 27)).alloc (.cells (opnF w.heap.size (w.heap.size + 1) d).toArray 93)) ∧ Blk W w.heap.size [.pointer (some ⟨d, 0, none⟩)] 36 ∧ Blk W (w.heap.size + 1) [.slice none 0 0] 27 ∧ Blk W (w.heap.size + 1 + 1) (opnF w.heap.size (w.heap.size + 1) d) 93 ∧ Below w.heap.size w W :=
    ⟨_, rfl, alls_at w [.cells #[.pointer (some ⟨d, 0, none⟩)] 36, .cells #[.slice none 0 0] 27, .cells (opnF w.heap.size (w.heap.size + 1) d).toArray 93] 0 (by simp),
      alls_at w [.cells #[.pointer (some ⟨d, 0, none⟩)] 36, .cells #[.slice none 0 0] 27, .cells (opnF w.heap.size (w.heap.size + 1) d).toArray 93] 1 (by simp),
      alls_at w [.cells #[.pointer (some ⟨d, 0, none⟩)] 36, .cells #[.slice none 0 0] 27, .cells (opnF w.heap.size (w.heap.size + 1) d).toArray 93] 2 (by simp),
      alls_below w [.cells #[.pointer (some ⟨d, 0, none⟩)] 36, .cells #[.slice none 0 0] 27, .cells (opnF w.heap.size (w.heap.size + 1) d).toArray 93]⟩
  have hDW : DiskIn W own d s := by
    obtain ⟨bn, bk, loc, hA⟩ := hD
    exact ⟨bn, bk, loc, hA.below hbl⟩
  have hBW : Box W own w.heap.size (w.heap.size + 1) d (.slice none 0 0) := ⟨bp, bq, hN _ (Nat.le_refl _), hN _ (by omega), by omega⟩
  have ht := turn_open hBW hDW hR hk hm hr w own (by omega) (Kept.of_below hbl own) _ bg (hN _ (by omega)) (by omega)
  rw [hWe] at ht
  clear hWe bp bq bg hDW hBW
  have HO : Hid (GotOpn w own d s = GotOpn w own d s) := rfl
  by_cases h0 : (opnE s).2.2 = 0
  · have H0 := Lib.hid h0
    rw [h0] at ht
    refine ht.mono ?_
    rintro e w1 ⟨v, own1, rfl, hD1, hB1, hK1, hr1⟩
    have hr2 := hr1 rfl
    have HR2 := Lib.hid hr2
    obtain ⟨A2, c2, rfl, _, _, _, _⟩ := hr2
    have c0 := hB1.bp.cell 0 _ rfl
    have c1 := hB1.bq.cell 0 _ rfl
    have l0 := hB1.bp.lt
    have l1 := hB1.bq.lt
    have HB1 := Lib.hid hB1
    have HD1 := Lib.hid hD1
    clear ht h0 hr1 hB1 hD1
    go_wp2_with fail
    go_region
    go_wp2_with fail
    go_ret3
    have hb : Below w1.heap.size w1 (w1.alloc (.cells #[.pointer (some ⟨d, 0, none⟩), .int .i64 ((opnE s).2.1.length : Int), .int .i64 ((opnE s).2.1.length : Int), .bool false] 107)).drew := ((Below.refl _ w1).alloc (Nat.le_refl _) _).drew
    have hK := Kept.of_below hb own1
    have hDD : DiskIn (w1.alloc (.cells #[.pointer (some ⟨d, 0, none⟩), .int .i64 ((opnE s).2.1.length : Int), .int .i64 ((opnE s).2.1.length : Int), .bool false] 107)).drew own1 d (opnE s).1 := by
      obtain ⟨bn, bk, loc, hA⟩ := HD1.out
      exact ⟨bn, bk, loc, hA.below hb⟩
    exact .inr ⟨H0.out, w1.heap.size, .slice A2 (opnE s).2.1.length c2, own1, rfl, hDD, hK1.trans hK, hK1.size, ⟨heap_alloc_new w1 _, own_new HD1.out (Nat.le_refl _)⟩, HR2.out.kept hK⟩
  · have H0 := Lib.hid h0
    obtain ⟨z, hz⟩ : ∃ z : Nat, z = (opnE s).2.2 := ⟨_, rfl⟩
    have hne : ((z : Int) != 0) = true := by rw [hz]; simp; omega
    rw [← hz] at ht
    have HZ := Lib.hid hz
    refine ht.mono ?_
    rintro e w1 ⟨v, own1, rfl, hD1, hB1, hK1, hr1⟩
    clear ht h0 hz hr1
    go_wp2_with fail
    go_ret3
    exact .inl ⟨H0.out, by rw [← HZ.out]; rfl, own1, hD1, hK1⟩
end
end Go.Proofs.YtncpkblgiepdpaaGreat
