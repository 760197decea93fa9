/- What the program's disk keeps by: 'brought', 'byBirths': contracts over the translated program. No condition but that the disk lies in memory as said, and what each statement names. -/
import Derived.Test.YtncpkblgiepdpaaGreatDkL
import Derived.Lib.OwnBridge
import Derived.Lib.AppendIntMem
set_option linter.unusedVariables false
namespace Go.Proofs.YtncpkblgiepdpaaGreat
open Go.RowKit Go.Maps Go.Shelf Go.Sort

/-- A slice that reads as numbers. -/
def RdI (w : World) (A : Option Addr) (l : List Int) : Prop :=
  0 < l.length → ∃ ad, A = some ad ∧ ∀ j (h : j < l.length), w.cell? (ad.add j) = some (.int .i64 l[j])
theorem RdI.nil (w : World) (A : Option Addr) : RdI w A [] := fun h => absurd h (by simp)
theorem RdI.cell {w : World} {A : Option Addr} {l : List Int} (h : RdI w A l) {k : Nat} (hk : k < l.length) : ∃ ad, A = some ad ∧ w.cell? (ad.add k) = some (.int .i64 l[k]) := by
  obtain ⟨ad, e, hc⟩ := h (by omega)
  exact ⟨ad, e, hc k hk⟩
theorem RdI.below {w w' : World} {A : Option Addr} {l : List Int} (h : RdI w A l) (hb : Below w.heap.size w w') : RdI w' A l := fun hl => by
  obtain ⟨ad, e, hc⟩ := h hl
  exact ⟨ad, e, fun j hj => (hb.cell (World.block_lt_of_cell? w _ (hc j hj))).trans (hc j hj)⟩
theorem rdI_kept {w w' : World} {own own' : Nat → Option Role} {A : Option Addr} {l : List Int} (h : RdI w A l) (hK : Kept w w' own own') (hA : ∀ p, A = some p → own p.block = none) : RdI w' A l := fun hl => by
  obtain ⟨ad, rfl, hc⟩ := h hl
  refine ⟨ad, rfl, fun j hj => ?_⟩
  have h1 := hc j hj
  have hb : (ad.add j).block = ad.block := add_block _ _
  have hlt : (ad.add j).block < w.heap.size := cell_lt h1
  have h2 := hK.block (ad.add j).block hlt (by rw [hb]; exact hA ad rfl)
  rw [← h1]
  unfold World.cell?
  rw [h2]
def In64 (l : List Int) : Prop := ∀ z ∈ l, -9223372036854775808 ≤ z ∧ z ≤ 9223372036854775807

theorem brought_any (w : World) (A : Option Addr) (m c : Nat) (keep : List Int) (hl : keep.length = m) (hr : RdI w A keep) (h64 : In64 keep) (place most : Nat) (hp : place ≤ 1099511627776) (hm : most ≤ 1099511627776) :
    Calls Tryz.prog 119 #[.slice A m c, .int .i64 (place : Int), .int .i64 (most : Int)] w (GotV w (.int .i64 (brE keep place most : Nat))) := by
  by_cases hlt : place < m
  · have hk : place < keep.length := by omega
    obtain ⟨ad, rfl, hc⟩ := hr.cell hk
    obtain ⟨r1, r2⟩ := h64 _ (List.getElem_mem hk)
    have e1 : brE keep place most = (keep[place] % ((most + 1 : Nat) : Int)).toNat := by
      unfold brE
      rw [if_pos hk]
      simp [List.getD, hk]
    have e2 : ((brE keep place most : Nat) : Int) = keep[place] % ((most : Int) + 1) := by
      rw [e1]
      have := Int.emod_nonneg keep[place] (b := ((most + 1 : Nat) : Int)) (by omega)
      rw [Int.toNat_of_nonneg this]
      rfl
    generalize keep[place] = z at *
    have b1 : -((most : Int) + 1) < z.tmod ((most : Int) + 1) := by
      have := Int.lt_tmod_of_pos z (b := (most : Int) + 1) (by omega)
      omega
    have b2 : z.tmod ((most : Int) + 1) < (most : Int) + 1 := Int.tmod_lt_of_pos z (by omega)
    have e3 : (z.tmod ((most : Int) + 1) + ((most : Int) + 1)) % ((most : Int) + 1) = z % ((most : Int) + 1) := by
      rw [Int.add_emod_right]
      by_cases hz : 0 ≤ z
      · rw [Int.tmod_eq_emod_of_nonneg hz, Int.emod_emod]
      · have d := Int.mul_tdiv_add_tmod z ((most : Int) + 1)
        have e5 : z.tmod ((most : Int) + 1) = z + ((most : Int) + 1) * (-(z.tdiv ((most : Int) + 1))) := by rw [Int.mul_neg]; omega
        rw [e5, Int.add_mul_emod_self_left]
    rw [e2]
    have H3 := Lib.hid e3
    clear e1 e2 e3 hk h64
    go_enter Tryz.func119, Tryz.ntmps119
    go_wp2
    go_ret
    refine ⟨?_, rfl⟩
    show Ending.returned (Value.int IntKind.i64 ((z.tmod ((most : Int) + 1) + ((most : Int) + 1)) % ((most : Int) + 1))) = _
    rw [H3.out]
  · have e1 : brE keep place most = 0 := by
      unfold brE
      rw [if_neg (by omega)]
    rw [e1]
    clear hl
    go_enter Tryz.func119, Tryz.ntmps119
    go_wp2
    go_ret
    exact ⟨rfl, rfl⟩

/-! ### files in the order of their births -/
def fp (b : Nat) : Value := .pointer (some ⟨b, 0, none⟩)
theorem closure_any (W : World) (a b x y : Nat) (hx : W.cell? ⟨a, 0, none⟩ = some (.int .i64 (x : Int))) (hy : W.cell? ⟨b, 0, none⟩ = some (.int .i64 (y : Int))) :
    Calls Tryz.prog 136 #[fp a, fp b] W fun e w' => e = .returned (.int .i64 (Lib.compareInt (x : Int) (y : Int))) ∧ ∃ q, w' = W.drewN q := by
  have hcon := fun W => Tryz.cmp_Compare_int (x : Int) (y : Int) W
  generalize Lib.compareInt (x : Int) (y : Int) = r at hcon ⊢
  unfold fp
  go_enter Tryz.func136, Tryz.ntmps136
  go_wp2_with fail
  go_region_with (go_at_call 137; (with_reducible refine (hcon _).mono ?_); rintro e w1 ⟨rfl, rfl⟩)
  all_goals
    go_wp2_with fail
    go_ret
    exact ⟨rfl, 1, rfl⟩

theorem grown_sortWorld {α : Type} [Inhabited α] (enc : α → Value) (w : World) (blk m : Nat) (dk : Array α) (os : Array Obj) : w.grownBy (sortWorld enc w blk 0 m dk os) (some blk) := by
  unfold sortWorld
  refine ⟨rfl, rfl, rfl, by simp, fun k hk hne => ?_⟩
  rw [Sort.heap_grow_old _ _ (by simpa using hk)]
  have : blk ≠ k := fun e => hne (by rw [e])
  simp [Sort.putRow, Sort.mapBlock, Sort.ahead, Array.getElem?_modify, this]
theorem ltOf_birth {α : Type} (f : α → Nat) (x y : α) : ltOf (fun x y => Lib.compareInt (f x : Int) (f y : Int)) x y = decide (f x < f y) := by
  unfold ltOf Lib.compareInt
  by_cases h1 : f x < f y
  · have : (f x : Int) < f y := by omega
    simp [h1, this]
  · by_cases h2 : f y < f x
    · have : ¬ (f x : Int) < f y := by omega
      have h3 : (f x : Int) > f y := by omega
      simp [h1, this, h3]
    · have : ¬ (f x : Int) < f y := by omega
      have h3 : ¬ (f x : Int) > f y := by omega
      simp [h1, this, h3]
theorem swo_birth {α : Type} (f : α → Nat) : SWO (ltOf (fun x y : α => Lib.compareInt (f x : Int) (f y : Int))) where
  irrefl x := by rw [ltOf_birth]; simp
  trans x y z h1 h2 := by rw [ltOf_birth] at *; simp at *; omega
  ntrans x y z h1 h2 := by rw [ltOf_birth] at *; simp at *; omega
theorem sort_births {L : Nat → Prop} (d : List {i : Nat // L i}) (l : List Nat) (hp : (d.map (·.1)).Perm l) (hs : l.Pairwise (· < ·)) :
    (d.mergeSort fun x y => !(ltOf (fun x y : {i : Nat // L i} => Lib.compareInt (x.1 : Int) (y.1 : Int))) y x).map (·.1) = l := by
  have e : (fun x y : {i : Nat // L i} => !(ltOf (fun x y : {i : Nat // L i} => Lib.compareInt (x.1 : Int) (y.1 : Int))) y x) = fun x y => decide (x.1 ≤ y.1) := by
    funext x y
    rw [ltOf_birth (fun x : {i : Nat // L i} => x.1)]
    simp [← Nat.not_lt]
  rw [e]
  refine List.Perm.eq_of_pairwise (le := fun a b => a ≤ b) (fun a b _ _ h1 h2 => Nat.le_antisymm h1 h2) ?_ (hs.imp fun h => Nat.le_of_lt h) (((List.mergeSort_perm d _).map _).trans hp)
  refine List.pairwise_map.2 ((List.pairwise_mergeSort (le := fun x y : {i : Nat // L i} => decide (x.1 ≤ y.1)) (fun a b c h1 h2 => ?_) (fun a b => ?_) d).imp fun h => by simpa using h)
  · simp only [decide_eq_true_eq] at *; omega
  · simp only [Bool.or_eq_true, decide_eq_true_eq]; omega
theorem ids_sorted (n : Nat) (m : Nm) : (idsE n m).Pairwise (· < ·) := List.pairwise_lt_range.filter _
theorem ids_perm {n : Nat} {m : Nm} (h : OkM n m) (hi : ∀ i, cntE i m ≤ 1) {is : List Nat} (hp : is.Perm (m.map (·.2))) : is.Perm (idsE n m) := by
  have nd : (m.map (·.2)).Nodup := by
    rw [List.nodup_iff_count]
    intro i
    have := hi i
    unfold cntE at this
    rw [List.count, List.countP_map]
    exact this
  refine hp.trans ((List.perm_ext_iff_of_nodup nd (ids_nodup n m)).2 fun i => ?_)
  rw [mem_ids]
  constructor
  · intro hm
    obtain ⟨p, hp, rfl⟩ := List.mem_map.1 hm
    exact ⟨h.2 p hp, p, hp, rfl⟩
  · rintro ⟨_, p, hp, rfl⟩
    exact List.mem_map.2 ⟨p, hp, rfl⟩

theorem info_fp : (Tryz.prog.info? 132).map (fun i => (i.zero, i.size, i.bytes)) = some (some (.pointer none), 1, 8) := by kernel_rfl
theorem drewN_zero (w : World) : w.drewN 0 = w := rfl
/-- The files that names have, as they were born. -/
def GotIds (w : World) (loc : Nat → Nat) (is : List Nat) (e : Ending) (w' : World) : Prop :=
  ∃ v, e = .returned v ∧ w'.ownsRow w.heap.size 132 1 v is.length (is.map fun i => fp (loc i)) ∧ Below w.heap.size w w'
set_option maxRecDepth 20000 in
theorem byBirths_any (w : World) (b n : Nat) (loc : Nat → Nat) (m : Nm) (hm : MapAt w b loc m) (hI : OkM n m) (hi1 : ∀ i, cntE i m ≤ 1) (hfew : m.length ≤ 1000000000)
    (hc : ∀ p ∈ m, w.cell? ⟨loc p.2, 0, none⟩ = some (.int .i64 (p.2 : Int))) :
    Calls Tryz.prog 120 #[.map (some b)] w (GotIds w loc (idsE n m)) := by
  obtain ⟨i0, hi, hz0, hz1, hz2⟩ := info_parts info_fp
  have hbnl := hm.lt
  have HI := Lib.hid hI
  have HP : Hid (∀ is : List Nat, is.Perm (m.map (·.2)) → is.Perm (idsE n m)) := Lib.hid fun is hp => ids_perm hI hi1 hp
  have HC := Lib.hid hc
  clear hI hc
  go_enter Tryz.func120, Tryz.ntmps120
  go_wp2_with (at_range; refine wpList_range_own _ rfl _ 75 rfl 9 132 keyedS Tryz.underlying75 RP b m.length _ rfl hm ?_; intro w2 hrg2 hg2 hs2)
  have hb2 : Below w.heap.size w w2 := bl_grown (Below.refl _ _) hg2 (by simp)
  go_frame
  go_loopw [3] (fun v wr => ∃ left cnt, ∃ ns : List Nat, wr.ranges Tryz.prog 9 RP b w.heap.size m.length (DM loc m) left cnt ∧ ns.Perm ((told m left).map (·.2)) ∧ wr.ownsRow w.heap.size 132 1 v ns.length (ns.map fun i => fp (loc i)) ∧ Below w.heap.size w wr) (fun _ wr => wr.rangeLeft b w.heap.size)
  case atStart => exact ⟨_, _, [], hrg2, by rw [told_start]; exact List.Perm.refl _, World.ownsRow_nil _ _ _ _, hb2⟩
  case round =>
    clear hrg2 hg2 hm
    obtain ⟨left, cnt, ns, hrg, hperm, hown, hbl⟩ := hrel
    have hnl : ns.length ≤ m.length := by rw [hperm.length_eq, List.length_map]; exact told_len _ _
    have hrsz := hbl.size
    go_wp2_with (at_next; refine wpList_next_names _ rfl _ rfl b w.heap.size _ loc m HI.out.1 left cnt rfl hrg ?_ ?_)
    · intro hc0 hl0
      rw [told_all hl0] at hperm
      have hids := HP.out ns hperm
      have HIds := Lib.hid hids
      rcases hown.2 with ⟨rfl, h0⟩ | ⟨g, cap, cur, rfl, hbase, hgb, h1, h2, h3, h4⟩
      · have hn0 : ns = [] := List.length_eq_zero_iff.1 h0
        subst hn0
        have hcon := AnyF.slices_SortFunc_none (P := Tryz.prog) { Tryz.sortFile with } none 0 (.func (.func 136) #[] #[]) wr
        change Calls Tryz.prog 135 _ _ _ at hcon
        have he0 : idsE n m = [] := by
          have := HIds.out.length_eq
          exact List.length_eq_zero_iff.1 (by simpa using this.symm)
        have HE := Lib.hid he0
        clear he0
        clear hrg hown h0 hids hperm
        go_wp2_with (go_at_call 135; (with_reducible refine hcon.mono ?_); rintro e w' ⟨rfl, rfl⟩)
        go_ret
        rw [HE.out]
        exact ⟨_, rfl, World.ownsRow_nil _ _ _ _, hbl⟩
      · have hmem : ∀ i ∈ ns, ∃ p ∈ m, p.2 = i := fun i hi => List.mem_map.1 (hperm.mem_iff.1 hi)
        by_cases hne : ns = []
        · subst hne
          have hcon := AnyF.slices_SortFunc_none (P := Tryz.prog) { Tryz.sortFile with } (some ⟨g, 0, none⟩) cap (.func (.func 136) #[] #[]) wr
          change Calls Tryz.prog 135 _ _ _ at hcon
          have he0 : idsE n m = [] := by
            have := HIds.out.length_eq
            exact List.length_eq_zero_iff.1 (by simpa using this.symm)
          have HE := Lib.hid he0
          have HO := Lib.hid hown
          clear he0 hrg hown hids hperm hgb h4
          go_wp2_with (go_at_call 135; (with_reducible refine hcon.mono ?_); rintro e w' ⟨rfl, rfl⟩)
          go_ret
          rw [HE.out]
          exact ⟨_, rfl, HO.out, hbl⟩
        · obtain ⟨j0, hj0⟩ := List.exists_mem_of_ne_nil ns hne
          let _ : Inhabited {i : Nat // ∃ p ∈ m, p.2 = i} := ⟨⟨j0, hmem j0 hj0⟩⟩
          have hd : (ns.attachWith _ hmem).map (·.1) = ns := by simp
          have hdl : (ns.attachWith _ hmem).length = ns.length := by simp
          have hgl : g < wr.heap.size := (Array.getElem?_eq_some_iff.1 hgb).1
          have hH : Holds (fun x : {i : Nat // ∃ p ∈ m, p.2 = i} => fp (loc x.1)) wr g 0 (ns.attachWith _ hmem).toArray := by
            have hxs : (ns.attachWith _ hmem).map (fun x => fp (loc x.1)) = ns.map fun i => fp (loc i) := by simp
            rw [← hxs] at hown
            obtain ⟨g', cap', e, _, _, _, _, _, hh⟩ := Lib.holds_of_ownsRow hown (by simp)
            cases e
            exact hh
          have hcmp : CmpReads Tryz.prog 136 #[] (fun x : {i : Nat // ∃ p ∈ m, p.2 = i} => fp (loc x.1)) (fun x y => Lib.compareInt (x.1 : Int) (y.1 : Int)) g 0 ns.length wr := by
            intro q os dk _ x y
            have hcell : ∀ z : {i : Nat // ∃ p ∈ m, p.2 = i}, (sortWorld (fun x : {i : Nat // ∃ p ∈ m, p.2 = i} => fp (loc x.1)) wr g 0 q dk os).cell? ⟨loc z.1, 0, none⟩ = some (.int .i64 (z.1 : Int)) := by
              intro z
              obtain ⟨z, p, hp, rfl⟩ := z
              have e1 := HC.out p hp
              have hlt := cell_lt e1
              have e2 : wr.cell? ⟨loc p.2, 0, none⟩ = some (.int .i64 (p.2 : Int)) := (hbl.cell hlt).trans e1
              have hg := (grown_sortWorld (fun x : {i : Nat // ∃ p ∈ m, p.2 = i} => fp (loc x.1)) wr g q dk os).block (loc p.2) (Nat.lt_of_lt_of_le hlt hbl.size) (fun e => by
                have e9 : loc p.2 = g := by simpa using e
                have hlt2 : loc p.2 < w.heap.size := hlt
                omega)
              rw [← e2]
              unfold World.cell?
              rw [hg]
            exact closure_any _ _ _ _ _ (hcell x) (hcell y)
          have hcon := Any.slices_SortFunc_total Tryz.sortFile (fun x : {i : Nat // ∃ p ∈ m, p.2 = i} => fp (loc x.1)) (fun _ => rfl) (fun x y => Lib.compareInt (x.1 : Int) (y.1 : Int)) (swo_birth fun x : {i : Nat // ∃ p ∈ m, p.2 = i} => x.1) 136 #[] g 0 cap (ns.attachWith _ hmem).toArray wr
            (enters_of Tryz.func136 (by kernel_rfl) rfl) (by simpa using hcmp.lays) hH hgl (by simp; omega) (fun x y h1 h2 => by
              rw [ltOf_birth (fun x : {i : Nat // ∃ p ∈ m, p.2 = i} => x.1)] at h1 h2
              simp at h1 h2
              exact Subtype.ext (by omega))
          have hsort := sort_births (ns.attachWith _ hmem) (idsE n m) (by rw [hd]; exact HIds.out) (ids_sorted n m)
          have hszd : (ns.attachWith _ hmem).toArray.size = ns.length := by simp
          rw [hszd] at hcon
          change Calls Tryz.prog 135 _ _ _ at hcon
          have HO := Lib.hid hown
          have HST := Lib.hid hsort
          have HDL := Lib.hid hdl
          clear hH hcmp hrg hown hids hperm hgb h4 hsort hdl hd hszd
          go_wp2_with (go_at_call 135; (with_reducible refine hcon.mono ?_); rintro e w' ⟨rfl, q, os, rfl⟩)
          go_ret
          have hq := HST.out
          generalize hD : ((ns.attachWith (fun x => ∃ p, p ∈ m ∧ p.snd = x) hmem).mergeSort fun x y => !ltOf (fun x y : {i : Nat // ∃ p ∈ m, p.2 = i} => Lib.compareInt (x.1 : Int) (y.1 : Int)) y x) = D at hq ⊢
          have hDl : D.length = ns.length := by rw [← hD, List.length_mergeSort]; exact HDL.out
          have hxs : (ns.attachWith _ hmem).map (fun x => fp (loc x.1)) = ns.map fun i => fp (loc i) := by simp
          have ho := HO.out
          rw [← hxs] at ho
          have ho2 := Lib.ownsRow_putRow (q := q) (ys := D) ho hDl (Nat.le_refl _)
          have ho3 := Go.Lib.ownsRow_grow ho2 0 os
          have ht : (D.take ns.length).map (fun x : {i : Nat // ∃ p ∈ m, p.2 = i} => fp (loc x.1)) = (idsE n m).map fun i => fp (loc i) := by
            rw [List.take_of_length_le (by omega), ← hq, List.map_map]
            rfl
          rw [ht] at ho3
          have hnl3 : (idsE n m).length = ns.length := HIds.out.length_eq.symm
          refine ⟨_, rfl, ?_, bl_grown hbl (grown_sortWorld _ wr g q _ os) (fun k hk => by cases hk; exact hbase)⟩
          rw [hnl3]
          exact ho3
    · intro x i w3 cnt3 hx hxs hlx hrg3 hlt hg3 hs3 hen
      have hown3 : w3.ownsRow w.heap.size 132 1 u3 ns.length (ns.map fun i => fp (loc i)) := World.ownsRow.kept hown hg3 (by
        cases e : u3.ownBlock with
        | none => exact .inl rfl
        | some c => exact .inr (fun e2 => row_ne_iter hown hrg (by rw [e]; exact e2.symm)))
      have hb3 : Below w.heap.size w w3 := bl_grown hbl hg3 (fun k hk => by cases hk; exact Nat.le_refl _)
      have HR := Lib.hid hrg
      have hbase : ∀ k, u3.ownBlock = some k → w.heap.size ≤ k := fun k e => (hown.lt k e).1
      have HNB : Hid (some b ≠ u3.ownBlock) := Lib.hid (row_ne_low hown hbnl)
      have HNR : Hid (some w.heap.size ≠ u3.ownBlock) := Lib.hid (row_ne_iter hown hrg)
      have hone : ∀ j u, [fp (loc i)][j]? = some u → (w3.alloc (.cells #[fp (loc i)] 132)).cell? ((⟨wr.heap.size, 0, none⟩ : Addr).add j) = some u := by rw [← hs3]; exact one_cellS _ _ _
      unfold fp at hone
      have HB := Lib.hid hbase
      clear hrg hown hg3 hbase
      go_wp2_with (at_builtin; refine wpList_append_own _ rfl _ _ 149 rfl w.heap.size 132 i0 (.pointer none) 1 8 Tryz.underlying149 hi hz0 hz1 hz2 rfl (by decide) _ ns.length _ rfl (World.ownsRow.alloc hown3 _) ⟨wr.heap.size, 0, none⟩ 1 1 [.pointer (some ⟨loc i, 0, none⟩)] rfl rfl hone (by simp [Value.oneCell']) (by simp only [maxLen]; omega) (by omega) (by simp; omega) ?_)
      intro v' w4 ho4 hg4 hnn
      have hb4 : Below w.heap.size w w4 := bl_grown (bl_alloc hb3 _) hg4 HB.out
      have hrg4 := (hrg3.alloc (.cells #[.pointer (some ⟨loc i, 0, none⟩)] 132)).kept hg4 HNB.out HNR.out
      go_wp2
      refine ⟨⟨_, cnt3, ns ++ [i], hrg4, ?_, ?_, hb4⟩, ?_⟩
      · have p1 := told_more HI.out.1 hx hlx
        exact (List.perm_append_singleton i ns).trans ((hperm.cons _).trans (p1.map Prod.snd).symm)
      · have e5 : (ns ++ [i]).map (fun i => fp (loc i)) = List.map (fun i => fp (loc i)) ns ++ [.pointer (some ⟨loc i, 0, none⟩)] := by simp [fp]
        rw [e5, List.length_append]
        exact ho4
      · rw [hrg4.left_eq, HR.out.left_eq]; exact hlt
end Go.Proofs.YtncpkblgiepdpaaGreat
