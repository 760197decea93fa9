/- The record with which bytes begin; the records in bytes: contracts over the translated program. No condition but what each statement names. -/
import Derived.Test.YtncpkblgiepdpaaGreatJoF
import Derived.StillTailTactics
import Derived.Deep.RegionLaw
import Derived.Deep.RegionLawGrows
set_option linter.unusedVariables false
set_option linter.unusedSimpArgs false
namespace Go.Proofs.YtncpkblgiepdpaaGreat
open Go.RowKit

theorem cut_to (A : Option Addr) (n c k : Nat) (hk : k ≤ n) (hnc : n ≤ c) (z : Int) (hz : (k : Int) = z) (W : World) : (Instr.slice 22 (.slice A n c) none (some (.int .i64 z)) none).run Tryz.prog W = .ok (.slice A k c) W := by
  subst hz
  obtain ⟨i, hi, _, hs1, _⟩ := info_parts info_u8
  have he : Tryz.prog.elem 22 = 5 := by kernel_rfl
  rw [run_slice_h W 22 A n c (by rw [he]; exact Tryz.underlying22) .i64 k (by omega) (by omega)]
  simp [sizeOf, typeInfo, he, hi, hs1, sliced, Result.andThen]
  intro _
  cases A <;> simp [Addr.add]
theorem cut_at (A : Option Addr) (n c s : Nat) (l : List UInt8) (w : World) (hl : l.length = n) (hr : Rd w A l) (hs : s ≤ n) (hnc : n ≤ c) (z : Int) (hz : (s : Int) = z) :
    ∃ A', (∀ W : World, (Instr.slice 22 (.slice A n c) (some (.int .i64 z)) none none).run Tryz.prog W = .ok (.slice A' (n - s) (c - s)) W) ∧ Rd w A' (l.drop s) := by
  subst hz
  exact cut_from A n c s l w hl hr hs hnc
set_option maxHeartbeats 4000000 in
set_option maxRecDepth 40000 in
theorem taken_any (A : Option Addr) (m c : Nat) (b : List UInt8) (n : Nat) (w : World) (hl : b.length = m) (hr : Rd w A b) (hmc : m ≤ c) (hc : c ≤ maxLen) (hm : m ≤ 140737488355328) (hn : n ≤ 9223372036854775807) :
    Calls Tryz.prog 32 #[.slice A m c, .int .i64 (n : Int)] w (GotBytesE w (takenE b n).1 (takenE b n).2) := by
  have HL := Lib.hid hl
  have HC := Lib.hid hc
  have HT : Hid (takenE b n = _) := Lib.hid (takenE.eq_1 b n)
  clear hl hc
  by_cases h16 : m < 16
  · have e : takenE b n = ([], 3) := by rw [HT.out, if_pos (by rw [HL.out]; exact h16)]
    rw [e]
    go_enter Tryz.func32, Tryz.ntmps32
    go_wp2_with fail
    go_ret2
    exact ⟨_, rfl, Own.nil _ _, Below.refl _ _⟩
  obtain ⟨k, hk⟩ : ∃ k, k = beN (b.take 4) := ⟨_, rfl⟩
  have hk4 : k < 4294967296 := by
    have := beN_lt (b.take 4)
    rw [List.length_take, HL.out, Nat.min_eq_left (by omega)] at this
    rw [hk]; exact this
  have HK := Lib.hid hk
  have hnum := number_any A 4 c (b.take 4) w (by rw [List.length_take, HL.out]; omega) (hr.take 4) (by omega)
  rw [← HK.out] at hnum
  have hhd := fun w => head_any n k w hn (by omega)
  have hhl := hd_len n k
  have HT2 : Hid (takenE b n = if 262144 < k ∨ ¬ hdE n k <+: b then ([], 70) else if (b.drop 16).length < k + 4 then ([], 3) else if ¬ leB (lastE n ((b.drop 16).take k)) <+: (b.drop 16).drop k then ([], 70) else ((b.drop 16).take k, 0)) := by
    refine Lib.hid ?_
    have := HT.out
    rw [if_neg (by rw [HL.out]; exact h16), ← HK.out] at this
    exact this
  clear HT hk
  have HN4 := Lib.hid hnum
  have HHD := Lib.hid hhd
  clear hnum hhd
  have c4 := cut_to A m c 4 (by omega) hmc 4 rfl
  by_cases hbig : 262144 < k
  · have e : takenE b n = ([], 70) := by rw [HT2.out, if_pos (.inl hbig)]
    rw [e]
    go_enter Tryz.func32, Tryz.ntmps32
    go_wp2_with (first | (go_at_call 78; refine HN4.out.mono ?_; rintro e w1 ⟨rfl, rfl⟩) | fail)
    refine (HHD.out _).mono ?_
    rintro e w1 ⟨v1, rfl, ho1, hb1⟩
    obtain ⟨A1, c1, rfl, _, _, hr1⟩ := ho1.shape
    rw [hhl]
    go_wp2_with fail
    go_ret2
    exact ⟨_, rfl, Own.nil _ _, hb1⟩
  by_cases hpre : hdE n k <+: b
  case neg =>
    have e : takenE b n = ([], 70) := by rw [HT2.out, if_pos (.inr hpre)]
    rw [e]
    have hbg : begins b (hdE n k) = false := by unfold begins; simp [hpre]
    go_enter Tryz.func32, Tryz.ntmps32
    go_wp2_with (first | (go_at_call 78; refine HN4.out.mono ?_; rintro e w1 ⟨rfl, rfl⟩) | fail)
    refine (HHD.out _).mono ?_
    rintro e w1 ⟨v1, rfl, ho1, hb1⟩
    obtain ⟨A1, c1, rfl, _, _, hr1⟩ := ho1.shape
    rw [hhl]
    have hpa := prefix_any A A1 m c 16 c1 b (hdE n k) w1 HL.out hhl (hr.below hb1) hr1 hmc HC.out
    rw [hbg] at hpa
    clear hpre hbg
    go_wp2_with (go_at_call 79; refine hpa.mono ?_; rintro e w2 ⟨rfl, rfl⟩)
    go_ret2
    exact ⟨_, rfl, Own.nil _ _, hb1⟩
  have HT3 : Hid (takenE b n = if (b.drop 16).length < k + 4 then ([], 3) else if ¬ leB (lastE n ((b.drop 16).take k)) <+: (b.drop 16).drop k then ([], 70) else ((b.drop 16).take k, 0)) := by
    refine Lib.hid ?_
    have := HT2.out
    rw [if_neg (by rintro (h | h); exact hbig h; exact h hpre)] at this
    exact this
  have hbg : begins b (hdE n k) = true := by unfold begins; simp [hpre]
  have HBG := Lib.hid hbg
  obtain ⟨A16, c16, r16⟩ := cut_at A m c 16 b w HL.out hr (by omega) hmc 16 rfl
  have hl16 : (b.drop 16).length = m - 16 := by rw [List.length_drop, HL.out]
  have HL16 := Lib.hid hl16
  clear HT2 hpre hbg hl16
  by_cases hsh : m - 16 < k + 4
  · have e : takenE b n = ([], 3) := by rw [HT3.out, if_pos (by rw [HL16.out]; exact hsh)]
    rw [e]
    have d1 : decide ((m : Int) - 16 < (k : Int) + 4) = true := by simp; omega
    go_enter Tryz.func32, Tryz.ntmps32
    go_wp2_with (first | (go_at_call 78; refine HN4.out.mono ?_; rintro e w1 ⟨rfl, rfl⟩) | fail)
    refine (HHD.out _).mono ?_
    rintro e w1 ⟨v1, rfl, ho1, hb1⟩
    obtain ⟨A1, c1, rfl, _, _, hr1⟩ := ho1.shape
    rw [hhl]
    have hpa := prefix_any A A1 m c 16 c1 b (hdE n k) w1 HL.out hhl (hr.below hb1) hr1 hmc HC.out
    rw [HBG.out] at hpa
    go_wp2_with (go_at_call 79; refine hpa.mono ?_; rintro e w2 ⟨rfl, rfl⟩)
    go_ret2
    exact ⟨_, rfl, Own.nil _ _, hb1⟩
  have HSH := Lib.hid hsh
  have d1 : decide (((m - 16 : Nat) : Int) < (k : Int) + 4) = false := by simp; omega
  obtain ⟨Ar, cr, rr⟩ := cut_at A16 (m - 16) (c - 16) k (b.drop 16) w HL16.out r16 (by omega) (by omega) k rfl
  have ct := cut_to A16 (m - 16) (c - 16) k (by omega) (by omega) (k : Int) rfl
  have hlt : ((b.drop 16).take k).length = k := by rw [List.length_take, HL16.out]; omega
  have hlr : ((b.drop 16).drop k).length = m - 16 - k := by rw [List.length_drop, HL16.out]
  have rt := r16.take k
  obtain ⟨t, ht⟩ : ∃ t, t = (b.drop 16).take k := ⟨_, rfl⟩
  obtain ⟨r, hre⟩ : ∃ r, r = (b.drop 16).drop k := ⟨_, rfl⟩
  rw [← ht] at rt hlt
  rw [← hre] at rr hlr
  have HT4 : Hid (takenE b n = if ¬ leB (lastE n t) <+: r then ([], 70) else (t, 0)) := by
    refine Lib.hid ?_
    have := HT3.out
    rw [if_neg (by rw [HL16.out]; exact hsh), ← ht, ← hre] at this
    exact this
  have hle : onE (ofE (tldE n k)) t = lastE n t := by unfold lastE; rw [hlt]
  have HLE := Lib.hid hle
  have HLT := Lib.hid hlt
  have HLR := Lib.hid hlr
  clear HT3 hsh ht hre hle hlt hlr
  obtain ⟨bb, hbb⟩ : ∃ bb, bb = begins r (leB (lastE n t)) := ⟨_, rfl⟩
  have HBB := Lib.hid hbb
  clear hbb
  go_enter Tryz.func32, Tryz.ntmps32
  go_wp2_with (first | (go_at_call 78; refine HN4.out.mono ?_; rintro e w1 ⟨rfl, rfl⟩) | fail)
  refine (HHD.out _).mono ?_
  rintro e w1 ⟨v1, rfl, ho1, hb1⟩
  obtain ⟨A1, c1, rfl, _, _, hr1⟩ := ho1.shape
  rw [hhl]
  have hpa := prefix_any A A1 m c 16 c1 b (hdE n k) w1 HL.out hhl (hr.below hb1) hr1 hmc HC.out
  rw [HBG.out] at hpa
  clear ho1
  go_wp2_with (go_at_call 79; refine hpa.mono ?_; rintro e w2 ⟨rfl, rfl⟩)
  have hd : Below w2.heap.size w2 w2.drew := Below.drew (Below.refl _ _)
  go_region_law (first
    | (go_simp; go_at_call 76; refine (on_any (ofE (tldE n k)) A16 k (c - 16) t _ HLT.out (rt.below (bl_trans hb1 hd)) (by simp only [maxLen]; omega)).mono ?_; rintro e w3 ⟨rfl, hb3⟩)
    | (go_simp; go_at_call 75; refine (low_any _ _).mono ?_; rintro e w4 ⟨v4, rfl, ho4, hb4⟩; obtain ⟨A4, c4', rfl, _, _, hr4⟩ := ho4.shape; rw [HLE.out] at hr4)
    | (go_simp; go_at_call 79; refine (prefix_any Ar A4 (m - 16 - k) (c - 16 - k) 4 c4' r (leB (lastE n t)) w4 HLR.out rfl (rr.below (bl_trans (bl_trans (bl_trans hb1 hd) hb3) hb4)) hr4 (by omega) (by have := HC.out; unfold maxLen at this ⊢; omega)).mono ?_; rintro e w5 ⟨rfl, rfl⟩; rw [← HBB.out]))
  all_goals
    have hB4 := bl_trans (bl_trans (bl_trans hb1 hd) hb3) hb4
    cases hbb : bb with
    | false =>
      have e : takenE b n = ([], 70) := by
        rw [HT4.out, if_pos]
        intro h
        have h1 := HBB.out
        rw [hbb] at h1
        unfold begins at h1
        exact absurd h (of_decide_eq_false h1.symm)
      subst hbb
      go_wp2_with fail
      go_ret2
      rw [e]
      exact ⟨_, rfl, Own.nil _ _, hB4⟩
    | true =>
      have e : takenE b n = (t, 0) := by
        rw [HT4.out, if_neg]
        intro h
        have h1 := HBB.out
        rw [hbb] at h1
        unfold begins at h1
        exact h (of_decide_eq_true h1.symm)
      subst hbb
      go_wp2_with (go_at_call 80; refine (clone_any A16 k (c - 16) t _ HLT.out (rt.below hB4) (by omega)).mono ?_; rintro e w5 ⟨v5, rfl, ho5, hb5⟩)
      go_ret2
      rw [e]
      exact ⟨_, rfl, ho5.more hB4.size, bl_trans hB4 hb5⟩
/-- Records, where they end, and the error. -/
def GotRecs (w : World) (l : List (List UInt8)) (n er : Nat) (e : Ending) (w' : World) : Prop :=
  ∃ v vals, e = .returned (.tuple #[v, .int .i64 (n : Int), .int .i64 (er : Int)]) ∧ w'.ownsRow w.heap.size 22 1 v l.length vals ∧ (∀ q (h : q < l.length), ∃ u, vals[q]? = some u ∧ Own w' w.heap.size u l[q]) ∧ Below w.heap.size w w'
theorem rowKind {w : World} {base n : Nat} {v : Value} {vals : List Value} (h : w.ownsRow base 22 1 v n vals) : ∀ g, v.ownBlock = some g → ∃ cs fr, w.heap[g]? = some (.cells cs 22 fr) := fun g hg => by
  rcases h.2 with ⟨e2, hn⟩ | ⟨g', cap, cur, e2, hbase, hg', _⟩
  · rw [e2] at hg
    simp [Value.ownBlock] at hg
  · rw [e2] at hg
    simp [Value.ownBlock] at hg
    subst hg
    exact ⟨_, _, hg'⟩
/-- Bytes stay, where a row of slices grows. -/
theorem own_row {w w' : World} {base : Nat} {u : Value} {l : List UInt8} (h : Own w base u l) {row : Option Nat} (hg : w.grownBy w' row) (hr : ∀ g, row = some g → ∃ cs fr, w.heap[g]? = some (.cells cs 22 fr)) : Own w' base u l := by
  refine h.kept hg ?_
  rcases h.2 with ⟨e, _⟩ | ⟨g, cap, cur, e, _, hg', _⟩
  · rw [e]; exact .inl rfl
  · rw [e]
    refine .inr fun e2 => ?_
    obtain ⟨cs, fr, hb⟩ := hr g e2.symm
    rw [hg'] at hb
    cases hb
theorem row_below {w w' : World} {base n : Nat} {v : Value} {vals : List Value} (h : w.ownsRow base 22 1 v n vals) (hb : Below w.heap.size w w') : w'.ownsRow base 22 1 v n vals := World.ownsRow.kept h (grown_of_below hb none) (by
  cases e : v.ownBlock with
  | none => exact .inl rfl
  | some c => exact .inr (by simp))
theorem rowForm {w : World} {B n : Nat} {v : Value} {vals : List Value} (h : w.ownsRow B 22 1 v n vals) : ∃ A c, v = .slice A n c := by
  rcases h.2 with ⟨e, hn⟩ | ⟨g, cap, cur, e, r⟩
  · subst hn; exact ⟨_, _, e⟩
  · exact ⟨_, _, e⟩
theorem info_rows : (Tryz.prog.info? 22).map (fun i => (i.zero, i.size, i.bytes)) = some (some (.slice none 0 0), 1, 24) := by kernel_rfl
theorem one_row (w : World) (v : Value) (t : TypeId) : ∀ j u, [v][j]? = some u → (w.alloc (.cells #[v] t)).cell? ((⟨w.heap.size, 0, none⟩ : Addr).add j) = some u := by
  intro j u hj
  match j, hj with
  | 0, hj =>
    simp at hj
    subst hj
    simp [Addr.add]
theorem cap_rows {need old : Nat} (h : old < need) (hn : need ≤ 8000000000000) : Builtin.nextslicecap need old * 24 ≤ 281474976710656 := by
  unfold Builtin.nextslicecap
  split
  · omega
  · split
    · omega
    · rw [growBy_four]
      repeat' split
      all_goals omega
/-- append of one row, up to many of them. -/
theorem run_append_row (w : World) (ty : TypeId) (base : Nat) (v : Value) (k : Nat) (xs : List Value) (hown : w.ownsRow base 22 1 v k xs) (ad : Addr) (c : Nat) (u : Value)
    (hu : w.cell? ad = some u) (h1 : u.oneCell' = true) (hk : k + 1 ≤ 8000000000000) (hbase : base ≤ w.heap.size) :
    ∃ v' w', (Builtin.append_ #[27, 27] ty #[v, .slice (some ad) 1 c]).run Tryz.prog w = .ok v' w' ∧ w'.ownsRow base 22 1 v' (k + 1) (xs ++ [u]) ∧ w.grownBy w' v.ownBlock := by
  obtain ⟨i, hi, hz, hs, hb⟩ := info_parts info_rows
  have hcells : ∀ j y, [u][j]? = some y → w.cell? (ad.add j) = some y := by
    intro j y hj
    match j, hj with
    | 0, hj =>
      simp at hj
      subst hj
      have e : ad.add 0 = ad := by unfold Addr.add; split <;> simp_all
      rw [e]
      exact hu
  have h1s : ∀ y ∈ [u], y.oneCell' = true := by simpa using h1
  have hxl := hown.1
  by_cases hsm : (k + 1) * 24 ≤ 140737488355328
  · obtain ⟨v', w', a1, a2, a3, _⟩ := run_append_own (P := Tryz.prog) w base 27 ty 22 i (.slice none 0 0) 1 24 Tryz.underlying27 hi hz hs hb rfl (by decide) v k xs hown ad 1 c [u] rfl hcells h1s (by simp only [maxLen]; omega) hsm hbase
    exact ⟨v', w', a1, a2, a3⟩
  · rcases hown.2 with ⟨_, h0⟩ | ⟨g, cap, cur, rfl, hbg, hg, hnc, hcm, hcs, htake⟩
    · omega
    · have hlen : (xs ++ [u]).length = (k + 1) * 1 := by simp; omega
      by_cases hroom : k + 1 ≤ cap
      · have hfit : k * i.size + ([u] : List Value).length ≤ cur.size := by rw [hs, hcs]; simp; omega
        have hr := run_append_room (P := Tryz.prog) w 27 ty 22 i Tryz.underlying27 hi g k cap cur hg ad 1 c [u] (by rw [hs]; rfl) hcells h1s hroom hfit
        rw [hs] at hr
        refine ⟨_, _, hr, ⟨hlen, .inr ⟨g, cap, _, rfl, hbg, setRow_heap w g cur _ 22 _ hg, hroom, hcm, ?_, ?_⟩⟩, ⟨rfl, rfl, rfl, by simp, fun j _ hj => setRow_other w g j _ (fun e => hj (by simp [Value.ownBlock, e]))⟩⟩
        · simp only [List.size_toArray, List.length_append, List.length_take, List.length_drop, Array.length_toList, List.length_singleton]
          omega
        · rw [htake, ← hlen]
          exact List.take_left
      · have holds : ∀ j y, xs[j]? = some y → w.cell? ((⟨g, 0, none⟩ : Addr).add j) = some y := World.ownsRow.cells hown (g := g) rfl
        have hr := run_append_grow (P := Tryz.prog) w 27 ty 22 i (.slice none 0 0) Tryz.underlying27 hi hz ⟨g, 0, none⟩ k cap xs (by rw [hs]; exact hxl) holds ad 1 c [u] (by rw [hs]; rfl) hcells (by omega) (by omega)
          (by rw [hb]; exact cap_rows (by omega) hk)
        have hge := grownCap_ge w (k + 1) cap 22
        refine ⟨_, _, hr, ⟨hlen, .inr ⟨w.heap.size, _, _, rfl, hbase, heap_alloc_new w.drew _, hge, grownCap_le_maxLen w _ cap _ (by simp only [maxLen]; omega), ?_, ?_⟩⟩, ⟨rfl, rfl, rfl, by simp, fun j hj _ => Below.heap_alloc w.drew _ j hj⟩⟩
        · simp only [Array.size_append, List.size_toArray, size_zeroCells, List.length_singleton, Value.cells]
          simp
          omega
        · simp only [Array.toList_append, List.append_assoc]
          rw [← List.append_assoc, ← hlen]
          exact List.take_left
theorem wpList_append_row {ops : Array Oper} {rest : List Oper} {o : Oper} {a : Act} {Q : Exit → Act → World → Prop} (w : World) (hgd : Region.wanted o (yielded ops a.tmps) = true) (s x : Operand)
    (ho : o.op = .call { callee := .builtin .append, args := #[s, x], argTypes := #[27, 27] })
    (base : Nat) (v : Value) (k : Nat) (xs : List Value) (hs : a.eval s = v) (hown : w.ownsRow base 22 1 v k xs) (ad : Addr) (c : Nat) (u : Value) (hx : a.eval x = .slice (some ad) 1 c)
    (hu : w.cell? ad = some u) (h1 : u.oneCell' = true) (hk : k + 1 ≤ 8000000000000) (hbase : base ≤ w.heap.size)
    (h : ∀ v' w', w'.ownsRow base 22 1 v' (k + 1) (xs ++ [u]) → w.grownBy w' v.ownBlock → wpList Tryz.prog ops Q rest (a.put o.dst v') w') :
    wpList Tryz.prog ops Q (o :: rest) a w := by
  refine wpList_step fun K hK => ?_
  rw [if_pos hgd]
  obtain ⟨v', w', hr, h2, h3⟩ := run_append_row w o.type base v k xs hown ad c u hu h1 hk hbase
  unfold Oper.wp execOp
  simp only [ho, resolve, invoke, builtin, Sem.run_bind, Sem.run_pure, Result.andThen_ok, List.map_toArray, List.map_cons, List.map_nil, hs, hx, hr]
  exact hK _ _ (h v' w' h2 h3)

set_option maxHeartbeats 4000000 in
set_option maxRecDepth 40000 in
theorem records_any (A : Option Addr) (m c : Nat) (b : List UInt8) (w : World) (hl : b.length = m) (hr : Rd w A b) (hmc : m ≤ c) (hc : c ≤ maxLen) (hm : m ≤ 140737488355328) :
    Calls Tryz.prog 9 #[.slice A m c] w (GotRecs w (recsE b).1 (recsE b).2.1 (recsE b).2.2) := by
  obtain ⟨i0, hi, hz0, hz1, hz2⟩ := info_parts info_rows
  have HL := Lib.hid hl
  have HC := Lib.hid hc
  clear hl hc
  go_enter Tryz.func9, Tryz.ntmps9
  go_wp2_with fail
  go_loopw [2, 3] (fun v i wr => ∃ (l : List (List UInt8)) (k : Nat), k ≤ m ∧ 20 * l.length ≤ k ∧ i = .int .i64 (k : Int) ∧ Hid (restE b l k = recsE b) ∧ Hid (∃ vals, wr.ownsRow w.heap.size 22 1 v l.length vals ∧ (∀ q (h : q < l.length), ∃ u, vals[q]? = some u ∧ Own wr w.heap.size u l[q])) ∧ (∃ Av cv, v = .slice Av l.length cv) ∧ Hid (Below w.heap.size w wr)) (fun _ i _ => m - (intOf i).toNat)
  case atStart => exact ⟨[], 0, Nat.zero_le _, Nat.zero_le _, rfl, rest_start b, ⟨[], World.ownsRow_nil _ _ _ _, fun q h => by simp at h⟩, ⟨none, 0, rfl⟩, Below.refl _ _⟩
  case round =>
    obtain ⟨l, k, hk, hlk, rfl, HR, HO, ⟨Av, cv, rfl⟩, HB⟩ := hrel
    obtain ⟨A1, hc1, hr1⟩ := cut_at A m c k b wr HL.out (hr.below HB.out) hk hmc (k : Int) rfl
    have hd : (b.drop k).length = m - k := by rw [List.length_drop, HL.out]
    have htk := taken_any A1 (m - k) (c - k) (b.drop k) (l.length + 1) wr hd hr1 (by omega) (by have := HC.out; unfold maxLen at this ⊢; omega) (by omega) (by omega)
    have hcast : ((l.length + 1 : Nat) : Int) = (l.length : Int) + 1 := by omega
    rw [hcast] at htk
    have HTK := Lib.hid htk
    clear hd htk hcast
    rcases taken_err (b.drop k) (l.length + 1) with h0 | h0 | h0
    · obtain ⟨r, hr0⟩ : ∃ r, takenE (b.drop k) (l.length + 1) = (r, 0) := ⟨_, by rw [← h0]⟩
      have hz := taken_zero hr0
      rw [List.length_drop, HL.out] at hz
      have e := rest_ok (by rw [HL.out]; exact hk) hr0
      rw [HR.out] at e
      have HE := Lib.hid e
      have HZ := Lib.hid hr0
      clear e h0 hr0
      go_wp2_with fail
      refine HTK.out.mono ?_
      rintro e w1 ⟨v1, rfl, ho1, hb1⟩
      rw [HZ.out] at ho1
      obtain ⟨A3, c3, rfl, _, _, _⟩ := ho1.shape
      rw [HZ.out]
      obtain ⟨vals, ho, hv⟩ := HO.out
      have ho' := row_below ho hb1
      have hv' : ∀ q (h : q < l.length), ∃ u, vals[q]? = some u ∧ Own w1 w.heap.size u l[q] := fun q hq => by
        obtain ⟨u, hu, hou⟩ := hv q hq
        exact ⟨u, hu, hou.below hb1⟩
      have HV := Lib.hid hv'
      have HN := Lib.hid (ho1.more HB.out.size)
      have HB1 := Lib.hid (bl_trans HB.out hb1)
      have hsz := HB.out.size
      have hsz1 := hb1.size
      clear HO ho hv hv' HTK hb1
      go_wp2_with (at_builtin; refine wpList_append_row _ rfl _ _ rfl w.heap.size _ l.length _ rfl (World.ownsRow.alloc ho' _) ⟨w1.heap.size, 0, none⟩ 1 (.slice A3 r.length c3) rfl (by simp [go_sem]) rfl (by omega) (by simp; omega) ?_)
      intro v6 w6 ho6 hg6
      obtain ⟨Av6, cv6, rfl⟩ := rowForm ho6
      have hkind := rowKind (World.ownsRow.alloc ho' (.cells #[.slice A3 r.length c3] 22))
      have hal : Below w1.heap.size w1 (w1.alloc (.cells #[.slice A3 r.length c3] 22)) := (Below.refl _ _).alloc (Nat.le_refl _) _
      have hlv : vals.length = l.length := by have := ho'.1; omega
      have hfin : ∃ vals', w6.ownsRow w.heap.size 22 1 (.slice Av6 (l.length + 1) cv6) (l ++ [r]).length vals' ∧ (∀ q (h : q < (l ++ [r]).length), ∃ u, vals'[q]? = some u ∧ Own w6 w.heap.size u (l ++ [r])[q]) := by
        refine ⟨_, by rw [List.length_append, List.length_singleton]; exact ho6, fun q hq => ?_⟩
        rw [List.length_append, List.length_singleton] at hq
        by_cases hql : q < l.length
        · obtain ⟨u, hu, hou⟩ := HV.out q hql
          refine ⟨u, by rw [List.getElem?_append_left (by omega)]; exact hu, ?_⟩
          rw [List.getElem_append_left hql]
          exact own_row (hou.below hal) hg6 hkind
        · have hqe : q = l.length := by omega
          subst hqe
          refine ⟨.slice A3 r.length c3, by rw [List.getElem?_append_right (by omega), hlv]; simp, ?_⟩
          rw [List.getElem_append_right (by omega)]
          simpa using own_row (HN.out.below hal) hg6 hkind
      have HF := Lib.hid hfin
      have HB6 := Lib.hid (bl_grown (bl_alloc HB1.out (.cells #[.slice A3 r.length c3] 22)) hg6 (fun g hg => (ho'.lt g hg).1))
      clear hfin ho6 hg6 hkind ho'
      go_wp2_with fail
      refine ⟨⟨l ++ [r], k + 16 + r.length + 4, by omega, by simp; omega, by go_num, Lib.hid HE.out.symm, HF, ⟨Av6, cv6, by simp⟩, HB6⟩, by simp [intOf]; omega⟩
    · have h2 : (takenE (b.drop k) (l.length + 1)).2 = 3 := by rw [h0]
      have e := rest_torn h0
      rw [HR.out] at e
      have HE := Lib.hid e
      have H2 := Lib.hid h2
      clear e h2 h0
      go_wp2_with fail
      refine HTK.out.mono ?_
      rintro e w1 ⟨v1, rfl, ho1, hb1⟩
      obtain ⟨A3, n3, c3, rfl, _, _, _, _⟩ := ho1.form
      rw [H2.out]
      go_wp2_with fail
      go_ret3
      obtain ⟨vals, ho, hv⟩ := HO.out
      rw [HE.out]
      refine ⟨_, vals, rfl, row_below ho hb1, fun q hq => ?_, bl_trans HB.out hb1⟩
      obtain ⟨u, hu, hou⟩ := hv q hq
      exact ⟨u, hu, hou.below hb1⟩
    · have h2 : (takenE (b.drop k) (l.length + 1)).2 = 70 := by rw [h0]
      have e := rest_bad h0
      rw [HR.out] at e
      have HE := Lib.hid e
      have H2 := Lib.hid h2
      clear e h2 h0
      go_wp2_with fail
      refine HTK.out.mono ?_
      rintro e w1 ⟨v1, rfl, ho1, hb1⟩
      obtain ⟨A3, n3, c3, rfl, _, _, _, _⟩ := ho1.form
      rw [H2.out]
      go_wp2_with fail
      go_ret3
      rw [HE.out]
      exact ⟨_, [], rfl, World.ownsRow_nil _ _ _ _, fun q hq => by simp at hq, bl_trans HB.out hb1⟩
end Go.Proofs.YtncpkblgiepdpaaGreat
