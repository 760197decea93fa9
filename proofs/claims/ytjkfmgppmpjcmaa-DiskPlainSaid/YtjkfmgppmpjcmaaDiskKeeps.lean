/- What was synced, under a name that was kept, and no work done to it since, is there behind a fall, with no more behind it than there was, whatever else was done: DiskKeeps, of all deeds. No condition. -/
import Derived.Test.YtjkfmgppmpjcmaaDkLw
import Derived.Test.YtjkfmgppmpjcmaaDkArg
set_option linter.unusedVariables false
set_option linter.unusedSimpArgs false
namespace Go.Proofs.Ytjkfmgppmpjcmaa
open Go.RowKit Go.Maps Go.Shelf Go.Sort Go.ChangeShapes Go.WideShapes Go.ChangeAt

theorem used_le {s : DS} {k m r : Nat} (h : Run s k m r) : s.used ≤ m := by
  have := h.inv.nmd.2
  have := useE_le s.files
  have := h.bnd.data
  omega
theorem app_ok {s : DS} {k m r : Nat} (h : Run s k m r) (name tt b : BS) (hb : m + b.length ≤ r) : dE s ⟨0, name, tt, b⟩ = (appE s name b, 0) := by
  have := used_le h
  have h2 : s.used + b.length ≤ s.room := by rw [h.room]; omega
  simp only [dE, h2, if_true]
def keptB : BS := [107, 101, 112, 116]
/-- The state from which 'a' stays. -/
def keepS (s : DS) : DS := dsE s [⟨0, [97], [], keptB⟩, ⟨1, [97], [], []⟩, ⟨4, [], [], []⟩]
theorem keep_start {s : DS} {k m r : Nat} (h : Run s k m r) (hb : m + 4 ≤ r) :
    ∃ i was, (dE s ⟨0, [97], [], keptB⟩).2 = 0 ∧ getE (dE s ⟨0, [97], [], keptB⟩).1.now [97] = some i ∧ rdE (dE s ⟨0, [97], [], keptB⟩).1 [97] = some was ∧
      dE (dE s ⟨0, [97], [], keptB⟩).1 ⟨1, [97], [], []⟩ = (syncE (dE s ⟨0, [97], [], keptB⟩).1 i, 0) ∧ Held (keepS s) [97] was i ∧ rdE (keepS s) [97] = some was := by
  have e1 := app_ok h [97] [] keptB hb
  rw [e1]
  have hi := inv_app h.inv [97] keptB
  have hr := rd_app h.inv [97] keptB (by simp) [97] (by simp)
  rw [if_pos rfl] at hr
  obtain ⟨i, hg⟩ : ∃ i, getE (appE s [97] keptB).now [97] = some i := by
    cases e : getE (appE s [97] keptB).now [97] with
    | some i => exact ⟨i, rfl⟩
    | none => rw [(rd_none hi).2 e] at hr; cases hr
  have e2 : dE (appE s [97] keptB) ⟨1, [97], [], []⟩ = (syncE (appE s [97] keptB) i, 0) := by simp only [dE, hg]
  have e3 : keepS s = keepE (syncE (appE s [97] keptB) i) (syncE (appE s [97] keptB) i).works.length := by
    show (dE (dE (dE s _).1 _).1 _).1 = _
    rw [e1, e2]
    rfl
  refine ⟨i, _, rfl, hg, hr, e2, ?_, ?_⟩
  · rw [e3]; exact held_begin hi hg hr
  · rw [e3, rd_keep, rd_sync]; exact hr

/-- Those deeds that leave 'a' alone. -/
def others (l : List MD) : List MD := l.filter fun x => !((nearM x).dd.name == [97]) && !((nearM x).dd.to == [97])
theorem others_snoc (l : List MD) (x : MD) : others (l ++ [x]) = others l ++ (if (!((nearM x).dd.name == [97]) && !((nearM x).dd.to == [97])) = true then [x] else []) := by
  unfold others
  rw [List.filter_append, List.filter_cons]
  split <;> rfl
theorem held_all {s : DS} {was : BS} {i : Nat} (h : Held s [97] was i) : ∀ l : List MD, Held (dsE s ((others l).map ddN)) [97] was i := by
  intro l
  have key : ∀ l : List MD, (∀ x ∈ l, (nearM x).dd.name ≠ [97] ∧ (nearM x).dd.to ≠ [97]) → ∀ s, Held s [97] was i → Held (dsE s (l.map ddN)) [97] was i := by
    intro l
    induction l with
    | nil => intro _ s h; exact h
    | cons x r ih =>
      intro hx s h
      exact ih (fun y hy => hx y (by simp [hy])) _ (held_d h (by simp) _ (hx x (by simp)).1 (hx x (by simp)).2)
  refine key (others l) (fun x hx => ?_) s h
  have := (List.mem_filter.1 hx).2
  simpa using this
theorem run_others {s : DS} {k m r : Nat} (h : Run s k m r) (l : List MD) : Run (dsE s ((others l).map ddN)) (k + l.length) (m + l.length * 30) r := by
  have h1 := run_ds h 30 ((others l).map ddN) (fun x hx => by
    obtain ⟨y, hy, rfl⟩ := List.mem_map.1 hx
    exact near_small y)
  have hl : ((others l).map ddN).length ≤ l.length := by rw [List.length_map]; exact List.length_filter_le _ _
  have : ((others l).map ddN).length * 30 ≤ l.length * 30 := Nat.mul_le_mul_right 30 hl
  exact h1.mono (by omega) (by omega)
/-- What a call of a disk leaves, seen from a place ahead. -/
theorem lies_got {w wr w2 : World} {own : Nat → Option Role} {d : Nat} {s s2 : DS} {v : Value} {e : Ending} (hL : Lies w wr own d s) (h : GotA wr own d v s2 e w2) : e = .returned v ∧ ∃ own2, Lies w w2 own2 d s2 ∧ Kept wr w2 own own2 := by
  obtain ⟨he, own2, hD, hK⟩ := h
  exact ⟨he, own2, hL.next hD hK, hK⟩
theorem lies_append {w wr X : World} {own : Nat → Option Role} {d : Nat} {s : DS} (hL : Lies w wr own d s) {k m r : Nat} (hR : Run s k m r) (hk : k ≤ 1000) (hm : m ≤ 1000000) (hr : r ≤ 16777216) (t : ByteArray) (ht : isN t = true) (l : BS) (q c : Nat) (hl : l.length = q) (hq : q ≤ 1000) {T : TypeId} {fr : Nat × Nat} (g : Nat) (hg : g = wr.heap.size)
    (tl : BS) (htl : t.data.toList = tl) (z : Int) (hz : (((dE s ⟨0, tl, [], l⟩).2 : Nat) : Int) = z)
    (hX : X = wr.alloc (.cells (l.map bv).toArray T fr)) : Calls Try.prog 11 #[.pointer (some ⟨d, 0, none⟩), .string t, .slice (some ⟨g, 0, none⟩) q c] X (fun e w' => e = .returned (.int .i64 z) ∧ ∃ own2, Lies w w' own2 d (dE s ⟨0, tl, [], l⟩).1) := by
  subst htl
  subst hz
  subst hX
  subst hg
  have hb : Below wr.heap.size wr (wr.alloc (.cells (l.map bv).toArray T fr)) := (Below.refl _ wr).alloc (Nat.le_refl _) _
  have hL2 := hL.on hb
  obtain ⟨bn, bk, loc, hA⟩ := hL.disk
  have hno : own wr.heap.size = none := by
    cases e : own wr.heap.size with
    | none => rfl
    | some r => have := hA.lt _ r e; omega
  refine (append_any (hA.below hb) (good_of hR.inv (hR.bnd.mono hk hm)) hR.live t ht _ q c l hl (rd_block (heap_alloc_new wr _)) (fun _ p hp => by cases hp; exact hno) (by omega) (by rw [hR.room]; exact hr)).mono ?_
  intro e w' h
  obtain ⟨h1, own2, h2, _⟩ := lies_got hL2 h
  exact ⟨h1, own2, h2⟩
theorem lies_sync {w wr : World} {own : Nat → Option Role} {d : Nat} {s : DS} (hL : Lies w wr own d s) {k m r : Nat} (hR : Run s k m r) (hk : k ≤ 1000) (hm : m ≤ 1000000) (t : ByteArray) (ht : t.size ≤ maxLen) (tl : BS) (htl : t.data.toList = tl) (z : Int) (hz : (((dE s ⟨1, tl, [], []⟩).2 : Nat) : Int) = z) :
    Calls Try.prog 12 #[.pointer (some ⟨d, 0, none⟩), .string t] wr (fun e w' => e = .returned (.int .i64 z) ∧ ∃ own2, Lies w w' own2 d (dE s ⟨1, tl, [], []⟩).1 ∧ Kept wr w' own own2) := by
  subst htl
  subst hz
  obtain ⟨bn, bk, loc, hA⟩ := hL.disk
  exact (sync_any hA (good_of hR.inv (hR.bnd.mono hk hm)) hR.live t ht).mono fun e w' h => lies_got hL h
theorem lies_names {w wr : World} {own : Nat → Option Role} {d : Nat} {s : DS} (hL : Lies w wr own d s) {k m r : Nat} (hR : Run s k m r) (hk : k ≤ 1000) (hm : m ≤ 1000000) :
    Calls Try.prog 13 #[.pointer (some ⟨d, 0, none⟩)] wr (fun e w' => e = .returned (.int .i64 0) ∧ ∃ own2, Lies w w' own2 d (dE s ⟨4, [], [], []⟩).1 ∧ Kept wr w' own own2) := by
  obtain ⟨bn, bk, loc, hA⟩ := hL.disk
  exact (keepNames_in hA (good_of hR.inv (hR.bnd.mono hk hm)) hR.short hR.live).mono fun e w' h => lies_got hL h
theorem lies_crash {w wr : World} {own : Nat → Option Role} {d : Nat} {s : DS} (hL : Lies w wr own d s) (hd : s.dead = false) (A : Option Addr) (m c : Nat) (keep : List Int) (hl : keep.length = m) (hr : RdI w A keep) (h64 : In64 keep) (hf : FallOk s keep) :
    Calls Try.prog 15 #[.pointer (some ⟨d, 0, none⟩), .slice A m c] wr (fun e w' => e = .returned (.tuple #[]) ∧ ∃ own2, Lies w w' own2 d (fallE s keep) ∧ Kept wr w' own own2) := by
  obtain ⟨bn, bk, loc, hA⟩ := hL.disk
  exact (crash_any hA hd A m c keep hl (hr.below hL.below) h64 (rdI_free hL hr) hf).mono fun e w' h => lies_got hL h
theorem lies_boot {w wr : World} {own : Nat → Option Role} {d : Nat} {s : DS} (hL : Lies w wr own d s) :
    Calls Try.prog 16 #[.pointer (some ⟨d, 0, none⟩)] wr (fun e w' => e = .returned (.tuple #[]) ∧ ∃ own2, Lies w w' own2 d (bootE s) ∧ Kept wr w' own own2) := by
  obtain ⟨bn, bk, loc, hA⟩ := hL.disk
  refine (boot_any hA).mono ?_
  rintro e w' ⟨he, hA2, hK⟩
  exact ⟨he, own, hL.next (s2 := bootE s) ⟨bn, bk, loc, hA2⟩ hK, hK⟩
theorem lies_read {w wr : World} {own : Nat → Option Role} {d : Nat} {s : DS} (hL : Lies w wr own d s) (hI : OkM s.files.length s.now) (hF : Fit s.files) (hd : s.dead = false) (t : ByteArray) (ht : t.size ≤ maxLen) (o : Option BS) (ho : rdE s t.data.toList = o) :
    Calls Try.prog 14 #[.pointer (some ⟨d, 0, none⟩), .string t] wr (GotRead wr o) := by
  subst ho
  obtain ⟨bn, bk, loc, hA⟩ := hL.disk
  exact read_any hA hI hF hd t ht

set_option maxHeartbeats 4000000 in
set_option maxRecDepth 40000 in
theorem keeps_walk (w : World) (A : Option Addr) (n c : Nat) (D : List MD) (A' : Option Addr) (n' c' : Nat) (D' : List MD) (Ak : Option Addr) (mk ck : Nat) (keep : List Int)
    (hl : D.length = n) (hnc : n ≤ c) (hr : RdD w A D) (hD : ∀ x ∈ D, x.Ok w) (hl' : D'.length = n') (hnc' : n' ≤ c') (hr' : RdD w A' D') (hD' : ∀ x ∈ D', x.Ok w) (hkl : keep.length = mk) (hkr : RdI w Ak keep) (h64 : In64 keep) (hc : c ≤ 140737488351232) (hc' : c' ≤ 140737488351232) :
    Calls Try.prog 3 #[.slice A n c, .slice A' n' c', .slice Ak mk ck] w (Yes w) := by
  have hnew : ∀ w, _ := fun w => new_any w 1048576 (by omega)
  have kc : ∀ (w : World) (C : Array Value) (n c g : Nat), g = w.heap.size → (convert 28 28 (.slice (some ⟨g, 0, none⟩) n c)).run Try.prog (w.alloc (.cells C 5)) = .ok (.slice (some ⟨g, 0, none⟩) n c) (w.alloc (.cells C 5 (C.size, C.size + 1))) := fun w C n c g hg => by
    subst hg
    exact Lib.run_convert_bytes_const w 28 5 C n c Try.underlying28 Try.underlying5
  have HD := Lib.hid hD
  have HL := Lib.hid hl
  have HD2 := Lib.hid hD'
  have HL2 := Lib.hid hl'
  have HKL := Lib.hid hkl
  have H64 := Lib.hid h64
  clear hD hl hD' hl' hkl h64
  go_enter Try.func3, Try.ntmps3
  go_wp2_with fail
  refine (hnew w).mono ?_
  rintro e w1 ⟨own0, d, rfl, hd0, hf0, hb0⟩
  clear hnew
  have hL0 : Lies w w1 own0 d (dsE (newE 1048576) ((D.take 0).map ddN)) := ⟨hd0, hf0, hb0⟩
  clear hd0 hf0 hb0
  go_wp2_with fail
  go_loopw [9] (fun i wr => ∃ j : Nat, j ≤ 60 ∧ i = .int .i64 (j : Int) ∧ ∃ own, Lies w wr own d (dsE (newE 1048576) ((D.take j).map ddN))) (fun i _ => 60 - (intOf i).toNat)
  case atStart => exact ⟨0, by omega, rfl, own0, hL0⟩
  case round =>
    clear hL0
    obtain ⟨j, hj, rfl, own, hLj⟩ := hrel
    by_cases hgo : j < n ∧ j < 60
    · obtain ⟨hlt, h60⟩ := hgo
      have hjl : j < D.length := by have := HL.out; omega
      have hx := HD.out _ (List.getElem_mem hjl)
      obtain ⟨ad, rfl, q0, q1, q2, q3, q4, q5, q6⟩ := (hr.below hLj.below).load hjl
      have hne := near_md D[j] wr hx
      have hdo := Lib.hid (fun w' own' (h : Lies w w' own' d (dsE (newE 1048576) ((D.take j).map ddN))) => does_near h (run_near 1048576 D j) (by omega) (by omega) (by omega) D[j] hx)
      have hnx := Lib.hid (near_next 1048576 hjl)
      unfold MD.val deedV at hne
      go_wp2_with fail
      refine hne.mono ?_
      rintro e w2 ⟨rfl, hb2⟩
      have hL2 := hLj.on hb2
      clear q0 q1 q2 q3 q4 q5 q6 hne
      go_wp2_with fail
      refine (hdo.out _ _ hL2).mono ?_
      intro e w3 hgot
      rw [hnx.out] at hgot
      obtain ⟨rfl, own3, hL3, _⟩ := lies_got hL2 hgot
      clear hgot hdo hnx hLj hL2
      go_wp2
      exact ⟨⟨j + 1, by omega, by go_num, own3, hL3⟩, by simp [intOf]; omega⟩
    · have hgo2 : (¬ j < n) ∨ (j < n ∧ ¬ j < 60) := by omega
      clear hgo
      have hrun := run_near 1048576 D j
      obtain ⟨i, was, e0, hg, hrd, e2, hheld, hrd2⟩ := keep_start hrun (by omega)
      have hrun1 := run_d hrun (x := ⟨0, [97], [], keptB⟩) ⟨by show 1 ≤ 40; omega, by show 0 ≤ 40; omega⟩
      have hrun2 := run_d hrun1 (x := ⟨1, [97], [], []⟩) ⟨by show 1 ≤ 40; omega, by show 0 ≤ 40; omega⟩
      have hrun3 := run_d hrun2 (x := ⟨4, [], [], []⟩) ⟨by show 0 ≤ 40; omega, by show 0 ≤ 40; omega⟩
      generalize dsE (newE 1048576) ((D.take j).map ddN) = s0 at *
      have e2' : (dE (dE s0 ⟨0, [97], [], keptB⟩).1 ⟨1, [97], [], []⟩).2 = 0 := by rw [e2]
      have hap := Lib.hid (fun X c T fr g hg hX => lies_append (X := X) hLj hrun (by omega) (by omega) (by omega) ⟨#[97]⟩ rfl keptB 4 c rfl (by omega) (T := T) (fr := fr) g hg [97] rfl 0 (by rw [e0]; rfl) hX)
      have HE0 := Lib.hid e0
      have HE2 := Lib.hid e2'
      have HHE := Lib.hid hheld
      have HR2 := Lib.hid hrd2
      have HR1 := Lib.hid hrun1
      have HRU2 := Lib.hid hrun2
      have HRU3 := Lib.hid hrun3
      clear e0 e2' hheld hrd2 hrun hrun1 hrun2 hrun3 e2 hg hrd
      rcases hgo2 with h | ⟨h, h'⟩
      all_goals
        go_wp2_with fail
        refine (hap.out _ 4 _ _ _ rfl rfl).mono ?_
        rintro e w3 ⟨rfl, own3, hL3⟩
        clear hap
        go_wp2_with fail
        refine (lies_sync hL3 HR1.out (by omega) (by simp [keptB]; omega) ⟨#[97]⟩ (by unfold maxLen; decide) [97] rfl 0 (by rw [HE2.out]; rfl)).mono ?_
        rintro e w4 ⟨rfl, own4, hL4, _⟩
        go_wp2_with fail
        refine (lies_names hL4 HRU2.out (by omega) (by simp [keptB]; omega)).mono ?_
        rintro e w5 ⟨rfl, own5, hL5, _⟩
        replace hL5 : Lies w w5 own5 d (keepS s0) := hL5
        have hok : OkM (keepS s0).files.length (keepS s0).now := HHE.out.inv.now
        have hfit : Fit (keepS s0).files := by
          have h1 : Run (keepS s0) _ _ _ := HRU3.out
          have := h1.bnd.data
          unfold Fit
          simp [keptB] at this
          omega
        go_wp2_with fail
        refine (lies_read hL5 hok hfit HRU3.out.live ⟨#[97]⟩ (by unfold maxLen; decide) (some was) HR2.out).mono ?_
        rintro e w6 ⟨v, rfl, hov, hb6⟩
        clear hok hfit
        have hL6 := hL5.on hb6
        obtain ⟨A13, n13, c13, rfl, hl13, hnc13, hcm13, hr13⟩ := hov.form
        have hfree : 0 < was.length → ∀ p, A13 = some p → own5 p.block = none := fun h0 p hp => by
          have h1 := hov.lt p.block (by
            rcases hov.2 with ⟨e, _⟩ | ⟨g, cap, cur, e, _⟩
            · cases e; cases hp
            · cases e; cases hp; rfl)
          obtain ⟨bn, bk, loc, hA⟩ := hL5.disk
          cases e : own5 p.block with
          | none => rfl
          | some r => have := hA.lt _ r e; omega
        have HFR := Lib.hid hfree
        clear hfree hov
        go_wp2_with fail
        go_loopw [15] (fun i wr => ∃ jj : Nat, jj ≤ 40 ∧ i = .int .i64 (jj : Int) ∧ ∃ own, Lies w wr own d (dsE (keepS s0) ((others (D'.take jj)).map ddN)) ∧ Kept w6 wr own5 own) (fun i _ => 40 - (intOf i).toNat)
        case atStart => exact ⟨0, by omega, rfl, own5, hL6, Kept.refl _ _⟩
        case round =>
          clear hL6
          obtain ⟨jj, hjj, rfl, ownj, hLq, hKq⟩ := hrel
          have hrq : Run (dsE (keepS s0) ((others (D'.take jj)).map ddN)) (j + 1 + 1 + 1 + 40) (j * 30 + 4 + 1200) 1048576 := by
            have h1 : Run (keepS s0) _ _ _ := HRU3.out
            have h2 := run_others h1 (D'.take jj)
            have h3 : (D'.take jj).length ≤ 40 := by simp; omega
            refine h2.mono (by omega) ?_
            simp [keptB]
            omega
          by_cases hgo : jj < n' ∧ jj < 40
          · obtain ⟨hlt, h60⟩ := hgo
            have hjl : jj < D'.length := by have := HL2.out; omega
            have hx := HD2.out _ (List.getElem_mem hjl)
            obtain ⟨ad, rfl, q0, q1, q2, q3, q4, q5, q6⟩ := (hr'.below hLq.below).load hjl
            have hne := near_md D'[jj] wr hx
            have hos := others_snoc (D'.take jj) D'[jj]
            rw [← List.take_succ_eq_append_getElem hjl] at hos
            have HOS := Lib.hid hos
            have hdo := Lib.hid (fun w' own' (h : Lies w w' own' d (dsE (keepS s0) ((others (D'.take jj)).map ddN))) => does_near h hrq (by omega) (by omega) (by omega) D'[jj] hx)
            unfold MD.val deedV at hne
            clear hos hrq
            go_wp2_with fail
            refine hne.mono ?_
            rintro e w7 ⟨rfl, hb7⟩
            have hL7 := hLq.on hb7
            clear q0 q1 q2 q3 q4 q5 q6 hne
            have hL7a := hL7.on ((Below.refl _ w7).alloc (Nat.le_refl _) (.cells #[.int .i64 (nearM D'[jj]).k, .string (nearM D'[jj]).G, .string (nearM D'[jj]).V, .slice (nearM D'[jj]).A (nearM D'[jj]).m (nearM D'[jj]).c, .int .i64 (nearM D'[jj]).N, .int .i64 (nearM D'[jj]).B, .slice (nearM D'[jj]).A2 (nearM D'[jj]).m2 (nearM D'[jj]).c2] 30))
            have hK7a := (hKq.trans (Kept.of_below hb7 _)).trans (Kept.of_below ((Below.refl _ w7).alloc (Nat.le_refl _) (.cells #[.int .i64 (nearM D'[jj]).k, .string (nearM D'[jj]).G, .string (nearM D'[jj]).V, .slice (nearM D'[jj]).A (nearM D'[jj]).m (nearM D'[jj]).c, .int .i64 (nearM D'[jj]).N, .int .i64 (nearM D'[jj]).B, .slice (nearM D'[jj]).A2 (nearM D'[jj]).m2 (nearM D'[jj]).c2] 30)) ownj)
            by_cases hb : (!((nearM D'[jj]).dd.name == [97]) && !((nearM D'[jj]).dd.to == [97])) = true
            · have hst : dsE (keepS s0) ((others (D'.take (jj + 1))).map ddN) = (dE (dsE (keepS s0) ((others (D'.take jj)).map ddN)) (nearM D'[jj]).dd).1 := by
                rw [HOS.out, if_pos hb, List.map_append, List.map_singleton, dsE_snoc]
                rfl
              have HST := Lib.hid hst
              obtain ⟨hb1, hb2⟩ := (Bool.and_eq_true _ _).mp hb
              have t1 : ((nearM D'[jj]).G.toList == [97]) = false := by rw [ByteArray.toList_eq]; simpa [MD.dd] using hb1
              have t2 : ((nearM D'[jj]).V.toList == [97]) = false := by rw [ByteArray.toList_eq]; simpa [MD.dd] using hb2
              clear hst hb hb1 hb2
              go_wp2_with fail
              refine (hdo.out _ _ hL7a).mono ?_
              intro e w8 hgot
              obtain ⟨rfl, own8, hL8, hK8⟩ := lies_got hL7a hgot
              clear hgot
              go_wp2
              exact ⟨⟨jj + 1, by omega, by go_num, own8, by rw [HST.out]; exact hL8, hK7a.trans hK8⟩, by simp [intOf]; omega⟩
            · have hst : dsE (keepS s0) ((others (D'.take (jj + 1))).map ddN) = dsE (keepS s0) ((others (D'.take jj)).map ddN) := by
                rw [HOS.out, if_neg hb, List.append_nil]
              have HST := Lib.hid hst
              clear hst
              by_cases h1 : ((nearM D'[jj]).G.toList == [97]) = true
              · clear hb
                go_wp2_with fail
                exact ⟨⟨jj + 1, by omega, by go_num, ownj, by rw [HST.out]; exact hL7a, hK7a⟩, by simp [intOf]; omega⟩
              · have h2 : ((nearM D'[jj]).V.toList == [97]) = true := by
                  rw [ByteArray.toList_eq] at h1 ⊢
                  simp [MD.dd] at hb h1 ⊢
                  exact hb h1
                have h1 : ((nearM D'[jj]).G.toList == [97]) = false := by simpa using h1
                clear hb
                go_wp2_with fail
                exact ⟨⟨jj + 1, by omega, by go_num, ownj, by rw [HST.out]; exact hL7a, hK7a⟩, by simp [intOf]; omega⟩
          · have hgo2 : (¬ jj < n') ∨ (jj < n' ∧ ¬ jj < 40) := by omega
            clear hgo
            have hheld := held_all HHE.out (D'.take jj)
            have hrdf := held_fall hheld keep
            have hrdy := rdy_fall hrq (by omega) (by omega) keep
            have hcr := Lib.hid (lies_crash hLq hrq.live Ak mk ck keep HKL.out hkr H64.out (fallOk_of hrq.inv hrq.short (hrq.bnd.mono (by omega) (by omega)) (by rw [hrq.room]; omega) keep))
            generalize dsE (keepS s0) ((others (D'.take jj)).map ddN) = s1 at *
            have HRF := Lib.hid hrdf
            have HRY := Lib.hid hrdy
            clear hheld hrdf hrdy hrq
            rcases hgo2 with h8 | ⟨h8, h9⟩
            all_goals
              go_wp2_with fail
              refine hcr.out.mono ?_
              rintro e w8 ⟨rfl, own8, hL8, hK8⟩
              go_wp2_with fail
              refine (lies_boot hL8).mono ?_
              rintro e w9 ⟨rfl, own9, hL9, hK9⟩
              go_wp2_with fail
              refine (lies_read hL9 HRY.out.ok HRY.out.fit HRY.out.live ⟨#[97]⟩ (by unfold maxLen; decide) (some was) HRF.out).mono ?_
              rintro e w10 ⟨v10, rfl, hov10, hb10⟩
              obtain ⟨A17, n17, c17, rfl, hl17, hnc17, hcm17, hr17⟩ := hov10.form
              have hr13' : Rd w10 A13 was := fun h0 => rd_kept hr13 (((hKq.trans hK8).trans hK9).trans (Kept.of_below hb10 own9)) (HFR.out h0) h0
              have heq := eq_any A13 A17 n13 c13 n17 c17 was was w10 hl13.out hl17.out hr13' hr17 (by omega) (by omega)
              rw [decide_eq_true rfl] at heq
              clear hov10
              go_wp2_with fail
              refine heq.mono ?_
              rintro e w11 ⟨rfl, hb11⟩
              go_wp2_with fail
              refine (awake_any w11).mono ?_
              rintro e w12 ⟨rfl, hb12⟩
              go_wp2_with fail
              go_ret
              exact ⟨rfl, bl_trans (bl_trans (bl_trans hL9.below hb10) hb11) hb12⟩
set_option maxRecDepth 100000 in
theorem DiskKeeps_holds : Rows.DiskKeepsSaid :=
  OpenClaim.holds_of_wide 3 Try.f3 rfl rfl rfl rfl rfl rfl rfl ⟨rfl, rfl, rfl, rfl, rfl⟩ rfl rfl rfl rfl rfl (by kernel_rfl) Try.func3 (by kernel_rfl)
    (of_decide_eq_true (by kernel_rfl)) (by unfold Func.isWrapper; first | (rw [if_pos (by decide +kernel)]; kernel_rfl) | (rw [if_neg (by decide +kernel)]; exact ⟨rfl, rfl⟩))
    (fun os started H enc _ => law_lifted (s := Rows.diskKeepsSpec) Try.func3 (by kernel_rfl) rfl
      (fun H ds h => by rw [Try.params3] at h; match ds, h with | [_, _, _], _ => rfl) (by kernel_rfl) (by kernel_rfl)
      os started H enc
      (ChangeSpec.witness6 (enc := enc) (C := Try.checked) false ⟨#[], #[.slice none 0 0, .slice none 0 0, .slice none 0 0], []⟩ 8 (by kernel_rfl) (by kernel_rfl) (by kernel_rfl) (by kernel_rfl))
      (fun W args ds p h => by
        obtain ⟨⟨base, hok⟩, hA, hl⟩ := h
        rw [Try.params3] at hok hA hl
        obtain ⟨v0, v1, v2, d0, d1, d2, p0, p1, p2, rfl, rfl, rfl, g0, g1, g2⟩ := trodAll_three hA
        obtain ⟨A0, n0, c0, l0, rfl, e0, a0, b0, r0, x0⟩ := open_deeds (hok 0 22 v0 rfl rfl) g0 (hl 0 22 d0 rfl rfl)
        obtain ⟨A1, n1, c1, l1, rfl, e1, a1, b1, r1, x1⟩ := open_deeds (hok 1 22 v1 rfl rfl) g1 (hl 1 22 d1 rfl rfl)
        obtain ⟨A2, n2, c2, l2, rfl, e2, a2, b2, r2, i2⟩ := open_int_list (hok 2 23 v2 rfl rfl) g2 (hl 2 23 d2 rfl rfl)
        exact keeps_walk W A0 n0 c0 l0 A1 n1 c1 l1 A2 n2 c2 l2 e0 a0 r0 x0 e1 a1 r1 x1 e2 r2 i2 b0 b1))

end Go.Proofs.Ytjkfmgppmpjcmaa
