/- The first ones of a list, cut: a contract over the translated program. No condition but that the list can be read. -/
import Derived.Test.YtdgaipdpebinbaaGreatJoL
import Derived.Maps.AppendAt
import Derived.Deep.Matrix
import Derived.Deep.RegionHeldLaw
set_option linter.unusedVariables false
set_option linter.unusedSimpArgs false
namespace Go.Proofs.YtdgaipdpebinbaaGreat
open Go.RowKit Go.Maps Go.Shelf Go.Sort Go.ChangeShapes Go.WideShapes Go.ChangeAt

/-- A slice of slices of bytes, in memory, each within its room. -/
def RdC (w : World) (A : Option Addr) (ll : List (List UInt8)) : Prop :=
  0 < ll.length → ∃ ad, A = some ad ∧ ∀ j (h : j < ll.length), ∃ Aj cj, w.cell? (ad.add j) = some (.slice Aj ll[j].length cj) ∧ ll[j].length ≤ cj ∧ cj ≤ maxLen ∧ Rd w Aj ll[j]
theorem RdC.at {w : World} {A : Option Addr} {ll : List (List UInt8)} (h : RdC w A ll) {k : Nat} (hk : k < ll.length) :
    ∃ ad Ak n c, A = some ad ∧ w.cell? (ad.add k) = some (.slice Ak n c) ∧ Hid (ll[k].length = n) ∧ n ≤ c ∧ c ≤ maxLen ∧ Rd w Ak ll[k] := by
  obtain ⟨ad, e, hc⟩ := h (by omega)
  obtain ⟨Ak, ck, h1, h2, h3, h4⟩ := hc k hk
  exact ⟨ad, Ak, _, ck, e, h1, rfl, h2, h3, h4⟩
theorem RdC.below {w w' : World} {A : Option Addr} {ll : List (List UInt8)} (h : RdC w A ll) (hb : Below w.heap.size w w') : RdC w' A ll := fun hl => by
  obtain ⟨ad, e, hc⟩ := h hl
  refine ⟨ad, e, fun j hj => ?_⟩
  obtain ⟨Aj, cj, h1, h2, h3, h4⟩ := hc j hj
  exact ⟨Aj, cj, (hb.cell (World.block_lt_of_cell? w _ h1)).trans h1, h2, h3, h4.below hb⟩
theorem cells_bs : Tryz.prog.cellsOf 22 = 1 := by kernel_rfl
set_option maxRecDepth 20000 in
/-- An argument of type [][]byte, opened. -/
theorem open_lists {H : Type} {enc : TypeId × Value → H} {W : World} {base : Nat} {v : Value} {d : DataW H} {p : List MemPlace} (hv : Value.okWide Tryz.prog W .any base 27 v)
    (h0 : DataW.Trod enc Tryz.prog W 0 (fun _ => true) true 27 v d p) :
    ∃ A n c ll, v = .slice A n c ∧ ll.length = n ∧ n ≤ c ∧ c ≤ maxLen ∧ RdC W A ll := by
  obtain ⟨A, n, c, rfl⟩ := okWide_slice Tryz.underlying27 hv
  obtain ⟨fuel, hf⟩ := h0
  rcases Deep.open_int_rows Tryz.underlying27 Tryz.underlying22 Tryz.underlying5 cells_bs cells_u8 hf with ⟨hcs, hx⟩ | ⟨a, len, cap, B, L, C, Z, hcs, _, hl, hm, hx, hcell⟩
  · simp [Value.cells] at hcs
    obtain ⟨rfl, rfl, rfl⟩ := hcs
    exact ⟨none, 0, 0, [], rfl, rfl, by omega, by simp [maxLen], fun h => absurd h (by simp)⟩
  · simp [Value.cells] at hcs
    obtain ⟨rfl, rfl, rfl⟩ := hcs
    have hrow : ∀ r, r < c → ((Z r).take (L r)).length = L r := fun r hr => by
      obtain ⟨_, h1, _, h2, _⟩ := hcell r hr
      rw [List.length_take]
      omega
    let g : Nat → List UInt8 := fun r => ((Z r).take (L r)).map (fun z => UInt8.ofNat z.toNat)
    have hgl : ∀ r, r < c → (g r).length = L r := fun r hr => by
      show (((Z r).take (L r)).map _).length = _
      rw [List.length_map, hrow r hr]
    refine ⟨some a, n, c, (List.range n).map g, rfl, by simp, hl, hm, fun _ => ⟨a, rfl, fun j hj => ?_⟩⟩
    have hjn : j < n := by simpa using hj
    have hjc : j < c := by omega
    obtain ⟨h1, h2, h2', h3, h4, h5, h6⟩ := hcell j hjc
    have eg : ((List.range n).map g)[j] = g j := by simp
    rw [eg, hgl j hjc]
    refine ⟨B j, C j, h1, h2, h2', fun hpos => ?_⟩
    rw [hgl j hjc] at hpos
    rcases hB : B j with _ | b
    · have := h5 hB; omega
    · refine ⟨b, rfl, fun k hk => ?_⟩
      rw [hgl j hjc] at hk
      have hkz : k < (Z j).length := by omega
      have hgk : (Z j).getD k 0 = (Z j)[k] := by simp [List.getD, hkz]
      have hz : 0 ≤ (Z j)[k] ∧ (Z j)[k] ≤ 255 := by
        have := h4 (Z j)[k] (List.getElem_mem hkz)
        simpa [Lit.wf, IntKind.min, IntKind.max, IntKind.signed, IntKind.bits] using this
      rw [(h6 b hB).2 k (by omega), hgk]
      have e2 : (g j)[k]'(by rw [hgl j hjc]; exact hk) = UInt8.ofNat ((Z j)[k]).toNat := by
        show (((Z j).take (L j)).map (fun z => UInt8.ofNat z.toNat))[k]'_ = _
        simp only [List.getElem_map, List.getElem_take]
      rw [e2]
      unfold bv
      rw [UInt8.toNat_ofNat', Nat.mod_eq_of_lt (by omega), Int.toNat_of_nonneg hz.1]

theorem step_append_row {ops : Array Oper} {o : Oper} {a : Act} {K : Act → World → Prop} {Q : Exit → Act → World → Prop} {E : Prop} (w : World) (hgd : o.guard = none) (s x : Operand)
    (ho : o.op = .call { callee := .builtin .append, args := #[s, x], argTypes := #[27, 27] })
    (base : Nat) (v : Value) (n : Nat) (xs : List Value) (hs : a.eval s = v) (hown : w.ownsRow base 22 1 v n xs) (ad : Addr) (c : Nat) (u : Value) (hx : a.eval x = .slice (some ad) 1 c) (hu : ∀ j y, [u][j]? = some y → w.cell? (ad.add j) = some y) (h1 : u.oneCell' = true)
    (hn : n ≤ 1000000) (hbase : base ≤ w.heap.size)
    (h : ∀ v' w', w'.ownsRow base 22 1 v' (n + 1) (xs ++ [u]) → w.grownBy w' v.ownBlock → (v'.ownBlock = v.ownBlock ∨ v'.ownBlock = some w.heap.size) → K (a.put o.dst v') w') :
    if Region.wanted o (yielded ops a.tmps) = true then Oper.wp Tryz.prog o a w K Q else E := by
  have hw : Region.wanted o (yielded ops a.tmps) = true := by simp [Region.wanted, hgd]
  rw [if_pos hw]
  obtain ⟨i0, hi, hz0, hz1, hz2⟩ := info_parts info_rows
  obtain ⟨v', w', hr, h2, h3, _, h5⟩ := run_append_own_at (P := Tryz.prog) w base 27 o.type 22 i0 (.slice none 0 0) 1 24 Tryz.underlying27 hi hz0 hz1 hz2 rfl (by decide) v n xs hown ad 1 c [u] rfl hu (by simpa using h1) (by simp only [maxLen]; omega) (by omega) hbase
  unfold Oper.wp execOp
  simp only [ho, resolve, invoke, builtin, Sem.run_bind, Sem.run_pure, Result.andThen_ok, List.map_toArray, List.map_cons, List.map_nil, hs, hx, hr]
  exact h v' w' h2 h3 h5
/-- The first k, cut to 200 bytes each. -/
def someTo (l : List BS) (k : Nat) : List BS := (l.take k).map fun b => b.take 200
def someE (l : List BS) : List BS := someTo l 20
theorem some_more {l : List BS} {k : Nat} (h : k < l.length) : someTo l (k + 1) = someTo l k ++ [l[k].take 200] := by
  unfold someTo
  rw [List.take_succ_eq_append_getElem h, List.map_append, List.map_singleton]
theorem some_len (l : List BS) (k : Nat) : (someTo l k).length = min k l.length := by unfold someTo; simp
theorem some_all {l : List BS} {k : Nat} (h : ¬ (k < l.length ∧ k < 20)) (hk : k ≤ 20) (hk2 : k ≤ l.length) : someTo l k = someE l := by
  unfold someE someTo
  by_cases e : k = 20
  · rw [e]
  · have : k = l.length := by omega
    subst this
    rw [List.take_of_length_le (Nat.le_refl _), List.take_of_length_le (by omega)]
theorem some_short (l : List BS) : (someE l).length ≤ 20 ∧ ∀ b ∈ someE l, b.length ≤ 200 := by
  refine ⟨by unfold someE; rw [some_len]; exact Nat.min_le_left _ _, fun b hb => ?_⟩
  unfold someE someTo at hb
  obtain ⟨x, _, rfl⟩ := List.mem_map.1 hb
  simp
  omega
set_option maxHeartbeats 4000000 in
set_option maxRecDepth 40000 in
theorem some_any (A : Option Addr) (n c : Nat) (l : List BS) (w : World) (hl : l.length = n) (hr : RdC w A l) :
    Calls Tryz.prog 29 #[.slice A n c] w (fun e w' => ∃ v vals, e = .returned v ∧ w'.ownsRow w.heap.size 22 1 v (someE l).length vals ∧ (∀ q (h : q < (someE l).length), ∃ u, vals[q]? = some u ∧ Own w' w.heap.size u (someE l)[q]) ∧ Below w.heap.size w w') := by
  have HL := Lib.hid hl
  clear hl
  go_enter Tryz.func29, Tryz.ntmps29
  go_wp2_with fail
  go_loopw [3, 4] (fun v i wr => ∃ (k : Nat), k ≤ 20 ∧ k ≤ n ∧ i = .int .i64 (k : Int) ∧ Hid (∃ vals, wr.ownsRow w.heap.size 22 1 v k vals ∧ (∀ q (h : q < k) (h2 : q < (someTo l k).length), ∃ u, vals[q]? = some u ∧ Own wr w.heap.size u (someTo l k)[q])) ∧ Hid (Below w.heap.size w wr)) (fun _ i _ => 20 - (intOf i).toNat)
  case atStart => exact ⟨0, by omega, Nat.zero_le _, rfl, ⟨[], World.ownsRow_nil _ _ _ _, fun q h => by omega⟩, Below.refl _ _⟩
  case round =>
    obtain ⟨k, hk, hkn, rfl, HO, HB⟩ := hrel
    by_cases hgo : k < n ∧ k < 20
    · obtain ⟨hlt, h20⟩ := hgo
      have h1 : k < l.length := by have := HL.out; omega
      obtain ⟨ad, Ak, nk, ck, rfl, hck, hnk, hlim1, hlim2, hk1⟩ := (hr.below HB.out).at h1
      obtain ⟨j, hj, hj1, hj2, hmin⟩ := min_lit nk 200 200 rfl
      have hct := cut_to Ak nk ck j hj1 hlim1 (j : Int) rfl
      have hsl : (l[k].take 200).length = j := by rw [List.length_take, show j = min nk 200 from hj, ← hnk.out, Nat.min_comm]
      have htk := hk1.take 200
      have hmore := some_more h1
      obtain ⟨b, hb⟩ : ∃ b, b = l[k].take 200 := ⟨_, rfl⟩
      rw [← hb] at hsl htk hmore
      obtain ⟨vals, hown, hvals⟩ := HO.out
      have hszw := HB.out.size
      have HM := Lib.hid hmore
      have HSL := Lib.hid hsl
      have HV := Lib.hid hvals
      have hd : Below wr.heap.size wr wr.drew := Below.drew (Below.refl _ _)
      have HOW := Lib.hid hown
      clear HO hr hk1 hmore hsl hvals hb hnk hj hown
      go_wp2_with fail
      go_region_law (first
        | (refine step_append_row _ (by rfl) _ _ (by rfl) w.heap.size _ k vals (by rfl) (World.ownsRow.alloc (row_below HOW.out (bl_trans hd hb1)) _) ⟨w1.heap.size, 0, none⟩ 1 (.slice A1 b.length c1) (by rfl) (one_row _ _ _) (by simp [Value.oneCell']) (by omega) (by simp; have := hb1.size; simp at this; omega) ?_; intro v6 w6 ho6 hg6 hbl6)
        | (go_simp; go_at_call 8; refine (copy_any Ak j ck b _ HSL.out (htk.below hd) (by omega)).mono ?_; rintro e w1 ⟨v1, rfl, ho1, hb1⟩; obtain ⟨A1, c1, rfl, _, _, hr1⟩ := ho1.shape))
      all_goals
        go_wp2_with fail
        have hbw1 := bl_trans hd hb1
        have hal : Below w1.heap.size w1 (w1.alloc (.cells #[.slice A1 b.length c1] 22)) := (Below.refl _ w1).alloc (Nat.le_refl _) _
        have hkind := rowKind (World.ownsRow.alloc (row_below HOW.out hbw1) (.cells #[.slice A1 b.length c1] 22))
        have hlv : vals.length = k := by have := HOW.out.1; omega
        have hsl0 : (someTo l k).length = k := by rw [some_len]; omega
        refine ⟨⟨k + 1, by omega, by omega, by go_num, Lib.hid ⟨_, ho6, fun q hq h2 => ?_⟩, Lib.hid (bl_grown (bl_alloc (bl_trans HB.out hbw1) (.cells #[.slice A1 b.length c1] 22)) hg6 (fun g hg => (HOW.out.lt g hg).1))⟩, by simp [intOf]; omega⟩
        have hM := HM.out
        by_cases hqk : q < k
        · obtain ⟨u, hu, hou⟩ := HV.out q hqk (by omega)
          refine ⟨u, by rw [List.getElem?_append_left (by omega)]; exact hu, ?_⟩
          have e9 : (someTo l (k + 1))[q] = (someTo l k)[q]'(by omega) := by simp only [hM]; rw [List.getElem_append_left]
          rw [e9]
          exact own_row ((hou.below hbw1).below hal) hg6 hkind
        · have hqe : q = k := by omega
          subst hqe
          refine ⟨.slice A1 b.length c1, by rw [List.getElem?_append_right (by omega), hlv]; simp, ?_⟩
          have e9 : (someTo l (q + 1))[q] = b := by simp only [hM]; rw [List.getElem_append_right (by omega)]; simp
          rw [e9]
          exact own_row ((ho1.more (by simp; omega)).below hal) hg6 hkind
    · have hall := some_all (l := l) (k := k) (by have := HL.out; omega) hk (by have := HL.out; omega)
      have hlen : (someE l).length = k := by rw [← hall, some_len]; have := HL.out; omega
      have hgo2 : (¬ k < n) ∨ (k < n ∧ ¬ k < 20) := by omega
      have HA := Lib.hid hall
      have HLE := Lib.hid hlen
      clear hgo hall hlen
      rcases hgo2 with h | ⟨h, h'⟩
      all_goals
        go_wp2_with fail
        go_ret
        obtain ⟨vals, hown, hvals⟩ := HO.out
        refine ⟨_, vals, rfl, by rw [HLE.out]; exact hown, fun q hq => ?_, HB.out⟩
        have := HA.out
        obtain ⟨u, hu, hou⟩ := hvals q (by rw [← HLE.out]; exact hq) (by rw [this]; exact hq)
        exact ⟨u, hu, by simpa only [this] using hou⟩
end Go.Proofs.YtdgaipdpebinbaaGreat
