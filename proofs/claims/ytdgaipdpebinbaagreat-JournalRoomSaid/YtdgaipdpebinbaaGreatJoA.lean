/- A checkpoint of a journal: what is asked and written ahead of its works: contracts over the translated program. No condition but what each statement names. -/
import Derived.Test.YtdgaipdpebinbaaGreatJoX
import Derived.Test.YtdgaipdpebinbaaGreatJoN
set_option linter.unusedVariables false
set_option linter.unusedSimpArgs false
namespace Go.Proofs.YtdgaipdpebinbaaGreat
open Go.RowKit Go.Maps Go.Shelf Go.Sort

set_option maxHeartbeats 1000000 in
theorem index_any (A : Option Addr) (n c : Nat) (l : List BS) (w : World) (hl : l.length = n) (hr : RdL w A l) (hs : short l) (hn : n ≤ 1000000) :
    Calls Tryz.prog 124 #[.slice A n c, .func (.func 35) #[] #[]] w (fun e w' => e = .returned (.int .i64 (-1)) ∧ Below w.heap.size w w') := by
  have HL := Lib.hid hl
  clear hl
  go_enter Tryz.func124, Tryz.ntmps124
  go_wp2_with fail
  go_loopw [8] (fun i wr => ∃ k : Nat, k ≤ n ∧ i = .int .i64 (k : Int) ∧ Below w.heap.size w wr) (fun i _ => n - (intOf i).toNat)
  case atStart => exact ⟨0, Nat.zero_le _, rfl, Below.refl _ _⟩
  case round =>
    obtain ⟨k, hk, rfl, hbl⟩ := hrel
    by_cases hlt : k < n
    · have h1 : k < l.length := by have := HL.out; omega
      obtain ⟨ad, Ak, ck, rfl, hc, hk1⟩ := (hr.below hbl).at h1
      have h2 := hs l[k] (List.getElem_mem h1)
      have hq := tooLong_any Ak l[k].length ck wr
      have hd : decide (262144 < ((l[k].length : Nat) : Int)) = false := by simp; omega
      rw [hd] at hq
      clear hk1
      go_wp2_with fail
      refine hq.mono ?_
      rintro e w1 ⟨rfl, rfl⟩
      go_wp2_with fail
      exact ⟨⟨k + 1, by omega, by go_num, hbl⟩, by simp [intOf]; omega⟩
    · go_wp2
      go_ret
      exact ⟨rfl, hbl⟩
theorem contains_any (A : Option Addr) (n c : Nat) (l : List BS) (w : World) (hl : l.length = n) (hr : RdL w A l) (hs : short l) (hn : n ≤ 1000000) :
    Calls Tryz.prog 78 #[.slice A n c, .func (.func 35) #[] #[]] w (fun e w' => e = .returned (.bool false) ∧ Below w.heap.size w w') := by
  have hq := index_any A n c l w hl hr hs hn
  clear hl hr hs
  go_enter Tryz.func78, Tryz.ntmps78
  go_wp2_with fail
  refine hq.mono ?_
  rintro e w1 ⟨rfl, hb1⟩
  go_wp2_with fail
  go_ret
  exact ⟨rfl, hb1⟩
set_option maxHeartbeats 4000000 in
set_option maxRecDepth 40000 in
theorem upTo_any (R : Int) (A : Option Addr) (n c : Nat) (l : List BS) (w : World) (hl : l.length = n) (hr : RdL w A l) (hn : n ≤ 1000) (hs : ∀ b ∈ l, b.length ≤ 1000) (hR0 : -100000000 ≤ R) (hR1 : R ≤ 100000000) :
    Calls Tryz.prog 79 #[.int .i64 R, .slice A n c] w (fun e w' => ∃ v k, e = .returned v ∧ k ≤ l.length ∧ (k = l.length ∨ R < ((catR 1 (l.take k)).length : Int)) ∧ Own w' w.heap.size v (catR 1 (l.take k)) ∧ Below w.heap.size w w') := by
  have HL := Lib.hid hl
  have hcl : ∀ k, (catR 1 (l.take k)).length ≤ 1020 * k := by
    intro k
    induction k with
    | zero => simp [catR]
    | succ k ih =>
      by_cases hk : k < l.length
      · have := end_more hk
        unfold endE at this
        have := hs l[k] (List.getElem_mem hk)
        omega
      · rw [List.take_of_length_le (by omega)] at ih ⊢
        omega
  have HCL := Lib.hid hcl
  clear hl hcl
  go_enter Tryz.func79, Tryz.ntmps79
  go_wp2_with fail
  go_loopw [5, 10] (fun vb i wr => ∃ k : Nat, k ≤ n ∧ i = .int .i64 (k : Int) ∧ Hid (Own wr w.heap.size vb (catR 1 (l.take k))) ∧ (∃ Ab cb, vb = .slice Ab (catR 1 (l.take k)).length cb) ∧ Hid (Below w.heap.size w wr)) (fun _ i _ => n - (intOf i).toNat)
  case atStart => exact ⟨0, Nat.zero_le _, rfl, Own.nil _ _, ⟨none, 0, rfl⟩, Below.refl _ _⟩
  case round =>
    obtain ⟨k, hk, rfl, HO, ⟨Ab, cb, rfl⟩, HB⟩ := hrel
    obtain ⟨Q, hQ⟩ : ∃ Q, (catR 1 (l.take k)).length = Q := ⟨_, rfl⟩
    have hQ1 : Q ≤ 1020 * k := by rw [← hQ]; exact HCL.out k
    have HQ := Lib.hid hQ
    rw [hQ]
    by_cases hlt : k < n
    · have h1 : k < l.length := by have := HL.out; omega
      obtain ⟨ad, Ak, ck, rfl, hc, hk1⟩ := (hr.below HB.out).at h1
      have h2 := hs l[k] (List.getElem_mem h1)
      by_cases hbig : R < (Q : Int)
      · clear hk1 hQ
        go_wp2_with fail
        go_ret
        exact ⟨_, k, rfl, by have := HL.out; omega, .inr (by rw [HQ.out]; exact hbig), by rw [← HQ.out]; exact HO.out, HB.out⟩
      · have hw := written_any (k + 1) Ak l[k].length ck l[k] wr (by omega) rfl hk1 (by omega)
        have e1 : (((k + 1 : Nat)) : Int) = (k : Int) + 1 := by omega
        rw [e1] at hw
        have hcat : catR 1 (l.take (k + 1)) = catR 1 (l.take k) ++ recE (k + 1) l[k] := by
          rw [List.take_succ_eq_append_getElem h1, catR_snoc, List.length_take, Nat.min_eq_left (by omega), Nat.add_comm 1 k]
        have HCAT := Lib.hid hcat
        have hsw := HB.out.size
        clear hk1 hQ hcat
        go_wp2_with fail
        refine hw.mono ?_
        rintro e w2 ⟨v2, rfl, ho2, hb2⟩
        obtain ⟨A2, c2, rfl, _, _, hr2⟩ := ho2.shape
        have HOB := Lib.hid (HO.out.below hb2)
        have HW2 := Lib.hid (bl_trans HB.out hb2)
        have hsz2 := hb2.size
        rw [HQ.out] at HOB
        clear HO hw ho2
        go_wp2_with (at_builtin; refine wpList_append_bytes _ rfl _ _ rfl w.heap.size _ (catR 1 (l.take k)) rfl (by have := HOB.out; exact this) A2 _ c2 (recE (k + 1) l[k]) rfl rfl hr2 (by rw [HQ.out, rec_len]; omega) (by omega) ?_)
        intro v3 w3 ho3 hg3 hn3
        have HW3 := Lib.hid (bl_grown HW2.out hg3 (fun g hg => (HOB.out.lt g hg).1))
        rw [← HCAT.out] at ho3
        obtain ⟨A3, n3, c3, rfl, hn3', _, _, _⟩ := ho3.form
        have hn3e : n3 = (catR 1 (l.take (k + 1))).length := hn3'.out.symm
        subst hn3e
        have HO3 := Lib.hid ho3
        clear ho3 hg3 hn3 hr2 hn3' HOB
        go_wp2_with fail
        exact ⟨⟨k + 1, by omega, by go_num, HO3, ⟨A3, c3, rfl⟩, HW3⟩, by simp [intOf]; omega⟩
    · have hkn : k = n := by omega
      subst hkn
      clear hQ
      go_wp2_with fail
      go_ret
      exact ⟨_, k, rfl, by have := HL.out; omega, .inl HL.out.symm, by rw [← HQ.out]; exact HO.out, HB.out⟩
end Go.Proofs.YtdgaipdpebinbaaGreat
