/- The document's Records: contracts over the translated program. No condition but that the bytes can be read. -/
import Derived.Test.YtncpkblgiepdpaaGreatJoRj
set_option linter.unusedVariables false
set_option linter.unusedSimpArgs false
namespace Go.Proofs.YtncpkblgiepdpaaGreat
open Go.RowKit

/-- Rows that a call made, of bytes that are read. -/
def RowsU (w : World) (base : Nat) (v : Value) (l : List (List UInt8)) : Prop :=
  ∃ vals, w.ownsRow base 22 1 v l.length vals ∧ ∀ q (h : q < l.length), ∃ A c, vals[q]? = some (.slice A l[q].length c) ∧ RdU w A l[q]
theorem RowsU.nil (w : World) (base : Nat) : RowsU w base (.slice none 0 0) [] := ⟨[], World.ownsRow_nil _ _ _ _, fun q h => by simp at h⟩
theorem RowsU.below {w w' : World} {base : Nat} {v : Value} {l : List (List UInt8)} (h : RowsU w base v l) (hb : Below w.heap.size w w') : RowsU w' base v l := by
  obtain ⟨vals, ho, hv⟩ := h
  exact ⟨vals, row_below ho hb, fun q hq => by
    obtain ⟨A, c, h1, h2⟩ := hv q hq
    exact ⟨A, c, h1, h2.below hb⟩⟩
/-- Such bytes behind a row's own turn. -/
theorem RdU.row {w w' : World} {A : Option Addr} {l : List UInt8} (h : RdU w A l) {row : Option Nat} (hg : w.grownBy w' row) (hr : ∀ g, row = some g → ∃ cs fr, w.heap[g]? = some (.cells cs 22 fr)) : RdU w' A l := by
  have key : ∀ ad, A = some ad → w'.heap[ad.block]? = w.heap[ad.block]? := fun ad e => by
    obtain ⟨cs, fr, hc⟩ := h.2 ad e
    refine hg.block _ (Array.getElem?_eq_some_iff.1 hc).1 fun er => ?_
    obtain ⟨cs2, fr2, hc2⟩ := hr _ er.symm
    rw [hc] at hc2
    simp at hc2
  refine ⟨fun hl => ?_, fun ad e => ?_⟩
  · obtain ⟨ad, e, hc⟩ := h.1 hl
    exact ⟨ad, e, fun j hj => by
      rw [← hc j hj]
      exact World.cell?_of_block (by rw [add_block]; exact key ad e)⟩
  · obtain ⟨cs, fr, hc⟩ := h.2 ad e
    exact ⟨cs, fr, (key ad e).trans hc⟩

/-- Records, where they end, and the error. -/
def GotRecsU (w : World) (l : List (List UInt8)) (n er : Nat) (e : Ending) (w' : World) : Prop :=
  ∃ v, e = .returned (.tuple #[v, .int .i64 (n : Int), .int .i64 (er : Int)]) ∧ RowsU w' w.heap.size v l ∧ Below w.heap.size w w'

theorem one_ok {b : List UInt8} {n : Nat} {r : List UInt8} (h : takenE b n = (r, 0)) : oneE b n = (r, r.length + 20, 0) := by unfold oneE; rw [h]; rfl
theorem one_torn {b : List UInt8} {n : Nat} (h : takenE b n = ([], 3)) : oneE b n = ([], 0, 0) := by unfold oneE; rw [h]; rfl
theorem one_bad {b : List UInt8} {n : Nat} (h : takenE b n = ([], 70)) : oneE b n = ([], 0, 70) := by unfold oneE; rw [h]; rfl
theorem rest_end (b : List UInt8) (l : List (List UInt8)) : restE b l b.length = (l, b.length, 0) := by
  refine rest_torn ?_
  rw [List.drop_length]
  unfold takenE
  simp

theorem at_sum (k r m : Nat) (h : k + (r + 20) ≤ m) (hm : m ≤ 140737488355328) : wrap64 ((k : Int) + ((r + 20 : Nat) : Int)) = ((k + 16 + r + 4 : Nat) : Int) := by
  rw [IntWalk.wrap64_in _ ⟨by omega, by omega⟩]
  omega
theorem at_more (k r m : Nat) (h : k + (r + 20) ≤ m) (hm : m ≤ 140737488355328) : Value.int .i64 (wrap64 ((k : Int) + ((r + 20 : Nat) : Int))) = .int .i64 ((k + 16 + r + 4 : Nat) : Int) := by rw [at_sum k r m h hm]
theorem at_less (k r m : Nat) (h : k + (r + 20) ≤ m) (hm : m ≤ 140737488355328) : m - (intOf (.int .i64 (wrap64 ((k : Int) + ((r + 20 : Nat) : Int))))).toNat < m - (intOf (.int .i64 (k : Int))).toNat := by
  rw [at_sum k r m h hm]
  simp only [intOf]
  omega

set_option maxHeartbeats 4000000 in
set_option maxRecDepth 40000 in
theorem refRecords_any (A : Option Addr) (m c : Nat) (b : List UInt8) (w : World) (hl : b.length = m) (hr : Rd w A b) (hmc : m ≤ c) (hc : c ≤ maxLen) (hm : m ≤ 140737488355328) :
    Calls Tryz.prog 10 #[.slice A m c] w (GotRecsU w (recsE b).1 (recsE b).2.1 (recsE b).2.2) := by
  have HL := Lib.hid hl
  have HC := Lib.hid hc
  have HE0 := Lib.hid (rest_end b)
  clear hl hc
  go_enter Tryz.func10, Tryz.ntmps10
  go_wp2_with fail
  go_loopw [5, 6] (fun v i wr => ∃ (l : List (List UInt8)) (k : Nat), k ≤ m ∧ 20 * l.length ≤ k ∧ i = .int .i64 (k : Int) ∧ Hid (restE b l k = recsE b) ∧ Hid (RowsU wr w.heap.size v l) ∧ (∃ Av cv, v = .slice Av l.length cv) ∧ Hid (Below w.heap.size w wr)) (fun _ i _ => m - (intOf i).toNat)
  case atStart => exact ⟨[], 0, Nat.zero_le _, Nat.zero_le _, rfl, rest_start b, RowsU.nil _ _, ⟨none, 0, rfl⟩, Below.refl _ _⟩
  case round =>
    obtain ⟨l, k, hk, hlk, rfl, HR, HO, ⟨Av, cv, rfl⟩, HB⟩ := hrel
    by_cases hlt : k < m
    · obtain ⟨A1, hc1, hr1⟩ := cut_at A m c k b wr HL.out (hr.below HB.out) hk hmc (k : Int) rfl
      have hd : (b.drop k).length = m - k := by rw [List.length_drop, HL.out]
      have hone := one_any A1 (m - k) (c - k) (b.drop k) (l.length + 1) wr hd hr1 (by omega) (by have := HC.out; unfold maxLen at this ⊢; omega) (by omega) (by omega)
      have hcast : ((l.length + 1 : Nat) : Int) = (l.length : Int) + 1 := by omega
      rw [hcast] at hone
      have hn9 : l.length ≤ 7036874417768 := by omega
      rcases taken_err (b.drop k) (l.length + 1) with h0 | h0 | h0
      · obtain ⟨r, hr0⟩ : ∃ r, takenE (b.drop k) (l.length + 1) = (r, 0) := ⟨_, by rw [← h0]⟩
        have hz := taken_zero hr0
        rw [List.length_drop, HL.out] at hz
        have e := rest_ok (by rw [HL.out]; exact hk) hr0
        rw [HR.out] at e
        rw [one_ok hr0] at hone
        have HONE := Lib.hid hone
        have HE := Lib.hid e
        obtain ⟨z, hz1⟩ : ∃ z, r.length + 20 = z := ⟨_, rfl⟩
        have hz0 : ¬ (z : Int) = 0 := by omega
        clear e h0 hr0 hone hd hcast hr1
        go_wp2_with fail
        refine HONE.out.mono ?_
        rintro e w1 ⟨A3, c3, rfl, hrc, hcm3, hu, hb1⟩
        try dsimp only
        try dsimp only at hrc hu
        rw [hz1]
        have HO1 := HO.out.below hb1
        have HB1 := Lib.hid (bl_trans HB.out hb1)
        have hsz := HB.out.size
        have hsz1 := hb1.size
        obtain ⟨vals, ho', hv⟩ := HO1
        have HV := Lib.hid hv
        have HU := Lib.hid hu
        have HZ1 := Lib.hid hz1
        clear HO hv hu HONE hb1 hz1
        go_wp2_with (at_builtin; refine wpList_append_row _ rfl _ _ rfl w.heap.size _ l.length _ rfl (World.ownsRow.alloc ho' _) ⟨w1.heap.size, 0, none⟩ 1 (.slice A3 r.length c3) rfl (by simp [go_sem]) rfl (by omega) (by simp; omega) ?_)
        intro v6 w6 ho6 hg6
        obtain ⟨Av6, cv6, rfl⟩ := rowForm ho6
        have hkind := rowKind (World.ownsRow.alloc ho' (.cells #[.slice A3 r.length c3] 22))
        have hal : Below w1.heap.size w1 (w1.alloc (.cells #[.slice A3 r.length c3] 22)) := (Below.refl _ _).alloc (Nat.le_refl _) _
        have hlv : vals.length = l.length := by have := ho'.1; omega
        have hfin : RowsU w6 w.heap.size (.slice Av6 (l.length + 1) cv6) (l ++ [r]) := by
          refine ⟨_, by rw [List.length_append, List.length_singleton]; exact ho6, fun q hq => ?_⟩
          rw [List.length_append, List.length_singleton] at hq
          by_cases hql : q < l.length
          · obtain ⟨A5, c5, hu5, hr5⟩ := HV.out q hql
            rw [List.getElem_append_left hql]
            exact ⟨A5, c5, by rw [List.getElem?_append_left (by omega)]; exact hu5, (hr5.below hal).row hg6 hkind⟩
          · have hqe : q = l.length := by omega
            subst hqe
            rw [List.getElem_append_right (by omega)]
            exact ⟨A3, c3, by rw [List.getElem?_append_right (by omega), hlv]; simp, by simpa using (HU.out.below hal).row hg6 hkind⟩
        have HF := Lib.hid hfin
        have HB6 := Lib.hid (bl_grown (bl_alloc HB1.out (.cells #[.slice A3 r.length c3] 22)) hg6 (fun g hg => (ho'.lt g hg).1))
        clear hfin ho6 hg6 hkind ho'
        go_wp2_with fail
        have hzz := HZ1.out
        have hz5 : r.length ≤ 262144 := hz.2
        have hk5 : k + (r.length + 20) ≤ m := by omega
        clear hz hcm3 hrc hmc hsz hsz1 hlv hlt
        refine ⟨⟨l ++ [r], k + 16 + r.length + 4, by omega, by simp; omega, ?_, Lib.hid HE.out.symm, HF, ⟨Av6, cv6, by simp⟩, HB6⟩, ?_⟩
        · rw [← hzz]
          exact at_more k r.length m hk5 hm
        · rw [← hzz]
          exact at_less k r.length m hk5 hm
      · have e := rest_torn h0
        rw [HR.out] at e
        rw [one_torn h0] at hone
        have HE := Lib.hid e
        have HONE := Lib.hid hone
        clear e h0 hone hd hcast hr1
        go_wp2_with fail
        refine HONE.out.mono ?_
        rintro e w1 ⟨A3, c3, rfl, hrc, hcm3, hu, hb1⟩
        try dsimp only
        go_wp2_with fail
        go_ret3
        rw [HE.out]
        exact ⟨_, rfl, HO.out.below hb1, bl_trans HB.out hb1⟩
      · have e := rest_bad h0
        rw [HR.out] at e
        rw [one_bad h0] at hone
        have HE := Lib.hid e
        have HONE := Lib.hid hone
        clear e h0 hone hd hcast hr1
        go_wp2_with fail
        refine HONE.out.mono ?_
        rintro e w1 ⟨A3, c3, rfl, hrc, hcm3, hu, hb1⟩
        try dsimp only
        go_wp2_with fail
        go_ret3
        rw [HE.out]
        exact ⟨_, rfl, RowsU.nil _ _, bl_trans HB.out hb1⟩
    · obtain rfl : k = m := by omega
      have e := HE0.out l
      rw [HL.out, HR.out] at e
      have HE := Lib.hid e
      clear e
      go_wp2_with fail
      go_ret3
      rw [HE.out]
      exact ⟨_, rfl, HO.out, HB.out⟩

end Go.Proofs.YtncpkblgiepdpaaGreat
