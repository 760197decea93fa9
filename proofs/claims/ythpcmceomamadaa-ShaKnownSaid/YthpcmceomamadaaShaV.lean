/- Hex and Parse of the program. No condition. -/
import Derived.Test.YthpcmceomamadaaShaQ
import Derived.Test.YthpcmceomamadaaShaU
import Derived.Lib.SlBytesConst
set_option linter.unusedVariables false
set_option linter.unusedSimpArgs false
namespace Go.Proofs.Ythpcmceomamadaa
open Go.RowKit

/-- append of bytes onto bytes that the call made itself, in a region that draws its order. -/
theorem step_append_bytes {ops : Array Oper} {o : Oper} {a : Act} {K : Act → World → Prop} {Q : Exit → Act → World → Prop} {E : Prop} (w : World) (hgd : o.guard = none) (s x : Operand)
    (ho : o.op = .call { callee := .builtin .append, args := #[s, x], argTypes := #[28, 28] })
    (base : Nat) (v : Value) (l : List UInt8) (hs : a.eval s = v) (hown : Own w base v l) (A : Option Addr) (m c : Nat) (l' : List UInt8) (hx : a.eval x = .slice A m c) (hm : l'.length = m) (hr : Rd w A l')
    (hbytes : l.length + l'.length ≤ 200000000000000) (hbase : base ≤ w.heap.size)
    (h : ∀ v' w', Own w' base v' (l ++ l') → w.grownBy w' v.ownBlock → (v'.ownBlock = v.ownBlock ∨ v'.ownBlock = some w.heap.size) → K (a.put o.dst v') w') :
    if Region.wanted o (yielded ops a.tmps) = true then Oper.wp Try.prog o a w K Q else E := by
  have hw : Region.wanted o (yielded ops a.tmps) = true := by simp [Region.wanted, hgd]
  rw [if_pos hw]
  obtain ⟨v', w', hr, h2, h3, h5⟩ := run_append_bytes w o.type base v l hown A m c l' hm hr hbytes hbase
  unfold Oper.wp execOp
  simp only [ho, resolve, invoke, builtin, Sem.run_bind, Sem.run_pure, Result.andThen_ok, List.map_toArray, List.map_cons, List.map_nil, hs, hx, hr]
  exact h v' w' h2 h3 h5

/-- Bytes that a literal laid down, whatever its mark. -/
theorem Rd.litF (w : World) (l : List UInt8) (fr : Nat × Nat) : Rd (w.alloc (.cells (l.map bv).toArray 5 fr)) (some ⟨w.heap.size, 0, none⟩) l := fun h => by
  refine ⟨_, rfl, fun j hj => ?_⟩
  have e : (⟨w.heap.size, 0, none⟩ : Addr).add j = ⟨w.heap.size, j, none⟩ := by unfold Addr.add; split <;> simp_all
  rw [e, cell_of_row _ _ j (l.map bv).toArray 5 fr (heap_alloc_new w _)]
  simp [hj]

/-- 'string(b)'. -/
theorem string_of (w : World) (A : Option Addr) (n c : Nat) (l : List UInt8) (hl : l.length = n) (hr : Rd w A l) : (convert 28 9 (.slice A n c)).run Try.prog w = .ok (.string ⟨l.toArray⟩) w := by
  subst hl
  rcases A with _ | ad
  · have h0 : l = [] := by
      rcases l with _ | ⟨x, r⟩
      · rfl
      · obtain ⟨ad, h, _⟩ := hr (by simp)
        cases h
    subst h0
    exact run_convert_bytes_nil w _ _ Try.underlying28 Try.underlying5 0 c _ Try.underlying9
  · rw [run_convert_bytes_string w _ _ _ _ _ c Try.underlying28 Try.underlying5 Try.underlying9]
    have hcells : ∀ j u, (l.map bv)[j]? = some u → w.cell? (ad.add j) = some u := by
      intro j u hu
      rw [List.getElem?_map] at hu
      obtain ⟨x, hx, rfl⟩ := Option.map_eq_some_iff.1 hu
      obtain ⟨hj, rfl⟩ := List.getElem?_eq_some_iff.1 hx
      obtain ⟨ad', e, hc⟩ := hr (by omega)
      cases e
      exact hc j hj
    have e : l.map bv = (l.map fun b => (b.toNat : Int)).map (Value.int .u8) := by rw [List.map_map]; rfl
    have hload := run_loadCells_list (P := Try.prog) w ad (l.map bv) hcells
    rw [List.length_map, e] at hload
    rw [run_bytesToString w ad l.length c (l.map fun b => (b.toNat : Int)) hload, foldl_push_bytes]
    simp [ByteArray.empty, ByteArray.emptyWithCapacity, Function.comp_def]
    rfl

def hexs : ByteArray := ⟨#[48, 49, 50, 51, 52, 53, 54, 55, 56, 57, 97, 98, 99, 100, 101, 102]⟩
theorem digit_at (n : Nat) (hn : n < 16) (k : IntKind) (W : World) : (Instr.index 9 (.string ⟨#[48, 49, 50, 51, 52, 53, 54, 55, 56, 57, 97, 98, 99, 100, 101, 102]⟩) (.int k (n : Int))).run Try.prog W = .ok (.int .u8 ((dg n).toNat : Int)) W := by
  rw [run_index_string W 9 _ k n Try.underlying9, dif_pos ⟨by omega, by show (n : Int) < 16; omega⟩]
  have h : ∀ m, (hm : m < 16) → Value.int .u8 (((⟨#[48, 49, 50, 51, 52, 53, 54, 55, 56, 57, 97, 98, 99, 100, 101, 102]⟩ : ByteArray)[m]'hm).toNat : Int) = bv (dg m) := by
    intro m hm
    match m, hm with
    | 0, _ => rfl
    | 1, _ => rfl
    | 2, _ => rfl
    | 3, _ => rfl
    | 4, _ => rfl
    | 5, _ => rfl
    | 6, _ => rfl
    | 7, _ => rfl
    | 8, _ => rfl
    | 9, _ => rfl
    | 10, _ => rfl
    | 11, _ => rfl
    | 12, _ => rfl
    | 13, _ => rfl
    | 14, _ => rfl
    | 15, _ => rfl
    | n + 16, hm => exact absurd hm (by show ¬ (n + 16 < 16); omega)
  exact congrArg (fun v => Result.ok v W) (h n hn)
theorem and15 : ∀ n : Nat, n < 256 → bits .and .u8 (n : Int) 15 = ((n % 16 : Nat) : Int) := by decide +kernel

/-- A byte out of an array. -/
theorem index32 (f : Nat → UInt8) (k : Nat) (hk : k < 32) (W : World) : (Instr.index 37 (.agg (rowB 32 f)) (.int .i64 (k : Int))).run Try.prog W = .ok (.int .u8 ((f k).toNat : Int)) W := by
  obtain ⟨i, hi, _, hs, _⟩ := info_parts info_u8
  have hg := rowB_get 32 f k hk
  have h0 : (0 : Int) ≤ k := by omega
  have h1 : (k : Int) < 32 := by omega
  have hu := run_underlying Try.underlying37
  have ha := run_underlying Try.underlying5
  simp [Instr.index, hu, hi, hs, h1, sizeOf, typeInfo, go_sem]
  rw [if_pos hk, hg]
  rfl

/-- A word, and nothing that was there has turned. -/
def GotS (w : World) (l : List UInt8) (e : Ending) (w' : World) : Prop := e = .returned (.string ⟨l.toArray⟩) ∧ Below w.heap.size w w'

set_option maxHeartbeats 2000000 in
set_option maxRecDepth 100000 in
theorem hex_any (f : Nat → UInt8) (w : World) : Calls Try.prog 21 #[.agg (rowB 32 f)] w (GotS w (hexE f)) := by
  obtain ⟨i0, hi, hz0, hz1, hz2⟩ := info_parts info_u8
  go_enter Try.func21, Try.ntmps21
  go_wp2_with (at_make; refine wpList_make_own _ rfl _ _ 28 rfl w.heap.size 5 i0 (.int .u8 0) 1 Try.underlying28 hi hz0 hz1 _ _ _ 64 rfl rfl rfl (by rw [hz2]; omega) (by simp [maxLen]) (by simp) ?_)
  intro w1 ho hg
  have hb1 : Hb w1 w.heap.size 37 32 f := by
    unfold Hb
    rw [hg.block _ (by simp) (by simp)]
    exact heap_alloc_new w _
  have hB1 : Below w.heap.size w w1 := bl_grown (bl_alloc (Below.refl _ _) _) hg (by simp)
  have H1 := Lib.hid hb1
  have HB := Lib.hid hB1
  have HO : Hid (Own w1 w.heap.size _ []) := Lib.hid ho
  clear hb1 hB1 ho hg
  go_wp2_with (refine wpList_load_row rfl 37 _ rfl w.heap.size rfl 37 _ (0, 0) _ H1.out Try.underlying37 rfl (by rw [size32, rowB_size]) ?_)
  go_loopw [3, 8] (fun v i wr => ∃ k : Nat, k ≤ 32 ∧ i = .int .i64 k ∧ Own wr w.heap.size v (hexL f k) ∧ Below w.heap.size w wr) (fun _ i _ => 32 - (intOf i).toNat)
  case atStart => exact ⟨0, by omega, rfl, HO.out, HB.out⟩
  case round =>
    clear HO HB H1
    obtain ⟨k, hk, rfl, ho, hB⟩ := hrel
    obtain ⟨A, n, c, rfl, HLn, hnc, hc, hrd⟩ := ho.form
    have hn2 : n = 2 * k := by rw [← HLn.out]; exact hexL_len f k
    have hn64 : n ≤ 64 := by omega
    by_cases hlt : k < 32
    · have hx := index32 f k hlt
      obtain ⟨q, hq⟩ : ∃ q, (f k).toNat / 16 = q := ⟨_, rfl⟩
      obtain ⟨r, hr⟩ : ∃ q, (f k).toNat % 16 = q := ⟨_, rfl⟩
      have hb := (f k).toNat_lt
      have q16 : q < 16 := by omega
      have r16 : r < 16 := by omega
      have qi : (q : Int) < 16 := by omega
      have ri : (r : Int) < 16 := by omega
      have e1 : ((f k).toNat : Int) / 16 = (q : Int) := by omega
      have e2 := and15 (f k).toNat (by omega)
      rw [hr] at e2
      have d1 := digit_at q q16 .u8
      have d2 := digit_at r r16 .u8
      have HQ := Lib.hid hq
      have HR := Lib.hid hr
      have HO := Lib.hid ho
      have HB := Lib.hid hB
      have HN := Lib.hid hn2
      clear hq hr ho hB hn2 hrd
      have hd : Below wr.heap.size wr (wr.drew.alloc (.cells #[.int .u8 ((dg q).toNat : Int), .int .u8 ((dg r).toNat : Int)] 5)) := bl_alloc (Below.drew (Below.refl _ _)) _
      have ho2 := HO.out.below hd
      have hr2 : Rd (wr.drew.alloc (.cells #[.int .u8 ((dg q).toNat : Int), .int .u8 ((dg r).toNat : Int)] 5)) (some ⟨wr.heap.size, 0, none⟩) [dg q, dg r] := Rd.litF wr.drew [dg q, dg r] (0, 0)
      have HO2 := Lib.hid ho2
      have HR2 := Lib.hid hr2
      have HD := Lib.hid hd
      have hbs := HB.out.size
      clear ho2 hr2 hd
      go_wp2
      go_region_law ((refine step_append_bytes _ (by rfl) _ _ (by rfl) w.heap.size _ (hexL f k) (by rfl) HO2.out _ 2 2 [dg q, dg r] (by rfl) rfl HR2.out (by rw [HLn.out]; simp; omega) (by simp; omega) ?_; intro v3 w3 ho3 hg3 _))
      all_goals
        go_wp2
        refine ⟨⟨k + 1, by omega, by go_num, ?_, bl_grown (bl_trans HB.out HD.out) hg3 (fun j hj => (HO.out.lt j hj).1)⟩, by simp [intOf]; omega⟩
        rw [hexL, HQ.out, HR.out]
        exact ho3
    · obtain rfl : k = 32 := by omega
      have hs := string_of wr A n c (hexL f 32) HLn.out hrd
      have HO := Lib.hid ho
      have HB := Lib.hid hB
      clear ho hB hrd hn2
      go_wp2
      go_ret
      exact ⟨rfl, HB.out⟩

end Go.Proofs.Ythpcmceomamadaa
