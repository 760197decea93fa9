/- CopyBytes, bytes.Clone, Join, bytes.Equal, bytes.HasPrefix: contracts over the translated program. No condition but what each statement names. -/
import Derived.Test.YtncpkblgiepdpaaGreatJoC
import Derived.Test.YtncpkblgiepdpaaGreatDkSo
import Derived.LoopTactic
import Derived.Deep.QuietTactic
import Derived.BigQuiet
import Derived.Outline
import Derived.Lib.Hide
import Derived.WalkSpells
import Derived.Deep.RegionWith
import Derived.Deep.RegionHeld3
set_option linter.unusedVariables false
set_option linter.unusedSimpArgs false
namespace Go.Proofs.YtncpkblgiepdpaaGreat
open Go.RowKit

def GotBytes (w : World) (l : List UInt8) (e : Ending) (w' : World) : Prop := ∃ v, e = .returned v ∧ Own w' w.heap.size v l ∧ Below w.heap.size w w'
def GotBool (w : World) (b : Bool) (e : Ending) (w' : World) : Prop := e = .returned (.bool b) ∧ Below w.heap.size w w'
/-- One byte, in the block that an append's argument is. -/
theorem Rd.one (w : World) (v : Value) (b : UInt8) (h : v = bv b) : Rd (w.alloc (.cells #[v] 5)) (some ⟨w.heap.size, 0, none⟩) [b] := fun _ => by
  refine ⟨_, rfl, fun j hj => ?_⟩
  obtain rfl : j = 0 := by simp at hj; omega
  subst h
  simp [Addr.add]
/- The statements' helpers -/

set_option maxHeartbeats 400000 in
set_option maxRecDepth 20000 in
theorem copy_any (A : Option Addr) (n c : Nat) (l : List UInt8) (w : World) (hl : l.length = n) (hr : Rd w A l) (hn : n ≤ 200000000000000) :
    Calls Tryz.prog 6 #[.slice A n c] w (GotBytes w l) := by
  go_enter Tryz.func6, Tryz.ntmps6
  go_wp2_with (at_builtin; refine wpList_append_bytes _ rfl _ _ rfl w.heap.size _ [] rfl (Own.nil _ _) A n c l rfl hl hr (by simp; omega) (Nat.le_refl _) ?_)
  intro v' w' ho hg _
  go_wp2
  go_ret
  exact ⟨_, rfl, by simpa using ho, bl_grown (Below.refl _ _) hg (by simp [Value.ownBlock])⟩
set_option maxHeartbeats 400000 in
set_option maxRecDepth 20000 in
theorem clone_any (A : Option Addr) (n c : Nat) (l : List UInt8) (w : World) (hl : l.length = n) (hr : Rd w A l) (hn : n ≤ 200000000000000) :
    Calls Tryz.prog 80 #[.slice A n c] w (GotBytes w l) := by
  rcases A with _ | ad
  · have h0 : l = [] := by
      rcases l with _ | ⟨x, r⟩
      · rfl
      · obtain ⟨ad, h, _⟩ := hr (by simp)
        cases h
    subst h0
    clear hr
    have he := fun (W : World) => Lib.run_eql_slice_nil (P := Tryz.prog) W 22 5 none n c 0 0 Tryz.underlying22
    go_enter Tryz.func80, Tryz.ntmps80
    go_wp2
    go_ret
    exact ⟨_, rfl, Own.nil _ _, Below.refl _ _⟩
  · have he := fun (W : World) => Lib.run_eql_slice_nil (P := Tryz.prog) W 22 5 (some ad) n c 0 0 Tryz.underlying22
    go_enter Tryz.func80, Tryz.ntmps80
    go_wp2_with (at_builtin; refine wpList_append_bytes _ rfl _ _ rfl w.heap.size _ [] rfl (Own.lit w.heap.size [] (Nat.le_refl _) (by simp)) (some ad) n c l rfl hl (hr.alloc _) (by simp; omega) (by simp) ?_)
    intro v' w' ho hg _
    go_wp2
    go_ret
    exact ⟨_, rfl, by simpa using ho, bl_grown (bl_alloc (Below.refl _ _) _) hg (by simp [Value.ownBlock])⟩
/-- A slice of slices of bytes, in memory. -/
def RdL (w : World) (A : Option Addr) (ll : List (List UInt8)) : Prop :=
  0 < ll.length → ∃ ad, A = some ad ∧ ∀ j (h : j < ll.length), ∃ Aj cj, w.cell? (ad.add j) = some (.slice Aj ll[j].length cj) ∧ Rd w Aj ll[j]
theorem RdL.at {w : World} {A : Option Addr} {ll : List (List UInt8)} (h : RdL w A ll) {k : Nat} (hk : k < ll.length) :
    ∃ ad Ak ck, A = some ad ∧ w.cell? (ad.add k) = some (.slice Ak ll[k].length ck) ∧ Rd w Ak ll[k] := by
  obtain ⟨ad, e, hc⟩ := h (by omega)
  obtain ⟨Ak, ck, h1, h2⟩ := hc k hk
  exact ⟨ad, Ak, ck, e, h1, h2⟩
theorem RdL.below {w w' : World} {A : Option Addr} {ll : List (List UInt8)} (h : RdL w A ll) (hb : Below w.heap.size w w') : RdL w' A ll := fun hl => by
  obtain ⟨ad, e, hc⟩ := h hl
  refine ⟨ad, e, fun j hj => ?_⟩
  obtain ⟨Aj, cj, h1, h2⟩ := hc j hj
  exact ⟨Aj, cj, (hb.cell (World.block_lt_of_cell? w _ h1)).trans h1, h2.below hb⟩
/-- The first k lists, one behind the other; how many bytes they have. -/
def catTo (ll : List (List UInt8)) (k : Nat) : List UInt8 := (ll.take k).flatten
def catLen (ll : List (List UInt8)) (k : Nat) : Nat := (catTo ll k).length
theorem cat_more {ll : List (List UInt8)} {k : Nat} (h : k < ll.length) : catTo ll (k + 1) = catTo ll k ++ ll[k] := by
  unfold catTo
  rw [List.take_succ_eq_append_getElem h, List.flatten_append]; simp
theorem catLen_more {ll : List (List UInt8)} {k : Nat} (h : k < ll.length) : catLen ll (k + 1) = catLen ll k + ll[k].length := by
  unfold catLen
  rw [cat_more h, List.length_append]
theorem cat_all (ll : List (List UInt8)) (k : Nat) (h : ll.length ≤ k) : catTo ll k = ll.flatten := by unfold catTo; rw [List.take_of_length_le h]
theorem catLen_le (ll : List (List UInt8)) (k : Nat) : catLen ll k ≤ ll.flatten.length := by
  have h : ll.flatten = (ll.take k).flatten ++ (ll.drop k).flatten := by rw [← List.flatten_append, List.take_append_drop]
  unfold catLen catTo
  rw [h, List.length_append]; omega
set_option maxHeartbeats 1000000 in
set_option maxRecDepth 20000 in
theorem join_any (A : Option Addr) (n c : Nat) (ll : List (List UInt8)) (w : World) (hl : ll.length = n) (hr : RdL w A ll) (hn : n ≤ maxLen) (hs : ll.flatten.length ≤ 200000000000000) :
    Calls Tryz.prog 74 #[.slice A n c] w (GotBytes w ll.flatten) := by
  unfold maxLen at hn
  obtain ⟨i0, hi, hz0, hz1, hz2⟩ := info_parts info_u8
  have HL := Lib.hid hl
  have hcl : ∀ k, catLen ll k ≤ 200000000000000 := fun k => by have := catLen_le ll k; omega
  have HC := Lib.hid hcl
  clear hl hcl hs
  go_enter Tryz.func74, Tryz.ntmps74
  go_wp2
  go_loop [3, 11] (fun t i => ∃ k : Nat, k ≤ n ∧ i = .int .i64 k ∧ t = .int .i64 (catLen ll k : Int)) (fun _ i => n - (intOf i).toNat)
  case atStart => exact ⟨0, Nat.zero_le _, rfl, rfl⟩
  case round =>
    obtain ⟨k, hk, rfl, rfl⟩ := hrel
    have hle := HC.out k
    by_cases hlt : k < n
    · have hk' : k < ll.length := by have := HL.out; omega
      obtain ⟨ad, Ak, ck, rfl, hcell, _⟩ := hr.at hk'
      have hle' := HC.out (k + 1)
      have hm := catLen_more hk'
      rw [hm] at hle'
      have HM := Lib.hid hm
      clear hm
      go_wp2
      refine ⟨⟨k + 1, by omega, by go_num, ?_⟩, by simp [intOf]; omega⟩
      rw [HM.out]
      go_num
    · go_wp2_with (at_make; refine wpList_make_own _ rfl _ _ 22 rfl w.heap.size 5 i0 (.int .u8 0) 1 Tryz.underlying22 hi hz0 hz1 _ _ _ (catLen ll k) rfl rfl rfl (by rw [hz2]; omega) (by simp only [maxLen]; omega) (Nat.le_refl _) ?_)
      intro w1 ho hg
      have hb1 : Below w.heap.size w w1 := bl_grown (Below.refl _ _) hg (by simp)
      have ho1 : Own w1 w.heap.size (.slice (some ⟨w.heap.size, 0, none⟩) 0 (catLen ll k)) [] := ho
      clear ho hg
      go_wp2
      go_loopw [6, 24] (fun v i wr => ∃ q : Nat, q ≤ n ∧ i = .int .i64 q ∧ Own wr w.heap.size v (catTo ll q) ∧ Below w.heap.size w wr) (fun _ i _ => n - (intOf i).toNat)
      case atStart => exact ⟨0, Nat.zero_le _, rfl, ho1, hb1⟩
      case round =>
        clear ho1 hb1
        obtain ⟨q, hq, rfl, hown, hbl⟩ := hrel
        by_cases hqn : q < n
        · have hq' : q < ll.length := by have := HL.out; omega
          obtain ⟨ad, Aq, cq, rfl, hcell, hrq⟩ := (hr.below hbl).at hq'
          have hle' := HC.out (q + 1)
          rw [catLen_more hq'] at hle'
          have hle'' : (catTo ll q).length + ll[q].length ≤ 200000000000000 := hle'
          have hsz := hbl.size
          go_wp2_with (at_builtin; refine wpList_append_bytes _ rfl _ _ rfl w.heap.size _ (catTo ll q) rfl hown Aq _ cq ll[q] rfl rfl hrq (by omega) (by omega) ?_)
          intro v' w' ho' hg' _
          go_wp2
          refine ⟨⟨q + 1, by omega, by go_num, ?_, bl_grown hbl hg' (fun k hk => (hown.lt k hk).1)⟩, by simp [intOf]; omega⟩
          rw [cat_more hq']
          exact ho'
        · go_wp2
          go_ret
          refine ⟨_, rfl, ?_, hbl⟩
          rw [← cat_all ll q (by have := HL.out; omega)]
          exact hown
theorem RdL.two {w : World} {A B : Option Addr} {a b c d : Nat} {x y : List UInt8} (hx : x.length = a) (hy : y.length = b) (h1 : Rd w A x) (h2 : Rd w B y) (t : TypeId) :
    RdL (w.alloc (.cells #[.slice A a c, .slice B b d] t)) (some ⟨w.heap.size, 0, none⟩) [x, y] := fun _ => by
  subst hx hy
  refine ⟨_, rfl, fun j hj => ?_⟩
  have hj2 : j = 0 ∨ j = 1 := by simp at hj; omega
  rcases hj2 with rfl | rfl
  · exact ⟨A, c, by simp [Addr.add], h1.alloc _⟩
  · exact ⟨B, d, by simp [Addr.add], h2.alloc _⟩
set_option maxHeartbeats 400000 in
set_option maxRecDepth 20000 in
theorem equal_any (A A' : Option Addr) (n c n' c' : Nat) (l l' : List UInt8) (w : World) (hl : l.length = n) (hl' : l'.length = n') (hr : Rd w A l) (hr' : Rd w A' l') :
    Calls Tryz.prog 126 #[.slice A n c, .slice A' n' c'] w fun e w' => e = .returned (.bool (decide (l = l'))) ∧ w' = w := by
  have s1 := string_of w A n c l hl hr
  have s2 := string_of w A' n' c' l' hl' hr'
  have eb : (l == l') = decide (l = l') := by
    by_cases h : l = l'
    · subst h; simp
    · simp [h]
  have EB := Lib.hid eb
  clear eb
  go_enter Tryz.func126, Tryz.ntmps126
  go_wp2
  go_ret
  refine ⟨?_, rfl⟩
  show Ending.returned (Value.bool (l == l')) = _
  rw [EB.out]
/-- Does a list begin with another one? -/
def begins (l l' : List UInt8) : Bool := decide (l' <+: l)
set_option maxHeartbeats 400000 in
set_option maxRecDepth 20000 in
theorem prefix_any (A A' : Option Addr) (n c n' c' : Nat) (l l' : List UInt8) (w : World) (hl : l.length = n) (hl' : l'.length = n') (hr : Rd w A l) (hr' : Rd w A' l') (hnc : n ≤ c) (hc : c ≤ maxLen) :
    Calls Tryz.prog 79 #[.slice A n c, .slice A' n' c'] w fun e w' => e = .returned (.bool (begins l l')) ∧ w' = w := by
  unfold maxLen at hc
  by_cases hle : n' ≤ n
  · have hq := equal_any A A' n' c n' c' (l.take n') l' w (by rw [List.length_take, hl]; omega) hl' (hr.take n') hr'
    have hbg : decide (l.take n' = l') = begins l l' := by
      unfold begins
      rw [decide_eq_decide, List.prefix_iff_eq_take, hl']
      exact eq_comm
    rw [hbg] at hq
    have HQ := Lib.hid hq
    clear hq hl hl' hr hr' hbg
    generalize begins l l' = b at *
    have g1 : decide (n' ≤ n) = true := by simp [hle]
    have g2 : decide ((n' : Int) ≤ (n : Int)) = true := by simp [hle]
    go_enter Tryz.func79, Tryz.ntmps79
    go_wp2_with (go_at_call 126; refine (HQ.out).mono ?_; rintro e w' ⟨rfl, rfl⟩)
    go_ret
    exact ⟨rfl, rfl⟩
  · have hbg : begins l l' = false := by
      unfold begins
      rw [decide_eq_false_iff_not]
      intro h
      have := h.length_le
      omega
    have HBG := Lib.hid hbg
    clear hl hl' hr hr' hbg
    have g1 : decide (n' ≤ n) = false := by simp; omega
    have g2 : decide ((n' : Int) ≤ (n : Int)) = false := by simp; omega
    go_enter Tryz.func79, Tryz.ntmps79
    go_wp2_with fail
    go_ret
    exact ⟨by rw [HBG.out]; rfl, rfl⟩
open Go.RowKit

theorem Own.head {w : World} {base : Nat} {A : Option Addr} {n c : Nat} {l : List UInt8} (h : Own w base (.slice A n c) l) (hn : 0 < n) : l.length = n ∧ ∃ g, A = some ⟨g, 0, none⟩ ∧ base ≤ g ∧ g < w.heap.size ∧ n ≤ c ∧ c ≤ maxLen := by
  rcases h.2 with ⟨h1, h2⟩ | ⟨g, cap, cur, hv, hb, hg, hnc, hcm, _⟩
  · cases h1; omega
  · cases hv
    exact ⟨rfl, g, rfl, hb, (Array.getElem?_eq_some_iff.1 hg).1, hnc, hcm⟩
theorem Own.len {w : World} {base : Nat} {A : Option Addr} {n c : Nat} {l : List UInt8} (h : Own w base (.slice A n c) l) : l.length = n := by
  rcases h.2 with ⟨h1, h2⟩ | ⟨g, cap, cur, hv, _⟩
  · cases h1; omega
  · cases hv; rfl
theorem Own.cellAt {w : World} {base g n c : Nat} {l : List UInt8} (h : Own w base (.slice (some ⟨g, 0, none⟩) n c) l) {k : Nat} (hk : k < l.length) : w.cell? ⟨g, k, none⟩ = some (.int .u8 (l[k].toNat : Int)) := by
  obtain rfl := h.len
  have h1 := World.ownsRow.cellAt h k (by omega)
  rw [h1]
  simp [hk, bv]
theorem Own.frozenAt {w : World} {base g n c : Nat} {l : List UInt8} (h : Own w base (.slice (some ⟨g, 0, none⟩) n c) l) (k : Nat) : w.frozen? ⟨g, k, none⟩ = false := by
  obtain rfl := h.len
  exact World.ownsRow.frozenAt h k
theorem Own.stored {w : World} {base g n c : Nat} {l : List UInt8} (h : Own w base (.slice (some ⟨g, 0, none⟩) n c) l) (k : Nat) (b : UInt8) (u : Value) (hu : u = bv b) :
    Own (w.setCell ⟨g, k, none⟩ u) base (.slice (some ⟨g, 0, none⟩) n c) (l.set k b) ∧ w.grownBy (w.setCell ⟨g, k, none⟩ u) (some g) := by
  obtain rfl := h.len
  subst hu
  have h1 := World.ownsRow.stored h k (bv b)
  refine ⟨?_, h1.2⟩
  unfold Own
  rw [List.length_set, List.map_set]
  exact h1.1
/-- Any number's cell of a byte is some byte's. -/
theorem u8_of {z : Int} (h0 : 0 ≤ z) (h1 : z < 256) : Value.int .u8 z = bv (UInt8.ofNat z.toNat) := by
  unfold bv
  rw [UInt8.toNat_ofNat', Nat.mod_eq_of_lt (by omega), Int.toNat_of_nonneg h0]
theorem Own.rd {w : World} {base : Nat} {A : Option Addr} {n c : Nat} {l : List UInt8} (h : Own w base (.slice A n c) l) : Rd w A l := by
  obtain ⟨A', n', c', e, _, _, _, hr⟩ := h.form
  cases e
  exact hr
theorem cut_mid (A : Option Addr) (n c s d : Nat) (l : List UInt8) (w : World) (hl : l.length = n) (hr : Rd w A l) (ht : s + d ≤ n) (hnc : n ≤ c) (zs zt : Int) (es : (s : Int) = zs) (et : ((s + d : Nat) : Int) = zt) :
    ∃ A', (∀ W : World, (Instr.slice 22 (.slice A n c) (some (.int .i64 zs)) (some (.int .i64 zt)) none).run Tryz.prog W = .ok (.slice A' d (c - s)) W) ∧ Rd w A' ((l.take (s + d)).drop s) ∧ Hid (((l.take (s + d)).drop s).length = d) := by
  subst es et
  refine ⟨_, fun W => ?_, (hr.take (s + d)).drop s c (by rw [List.length_take]; omega), by rw [Hid, List.length_drop, List.length_take]; omega⟩
  obtain ⟨i, hi, _, hs1, _⟩ := info_parts info_u8
  have he : Tryz.prog.elem 22 = 5 := by kernel_rfl
  rw [run_slice_lh W 22 A n c (by rw [he]; exact Tryz.underlying22) .i64 .i64 s (s + d : Nat) (by omega) (by omega) (by omega)]
  simp [sizeOf, typeInfo, he, hi, hs1, sliced, Result.andThen]
  omega
theorem cut_full (A : Option Addr) (n c : Nat) (hnc : n ≤ c) (W : World) : (Instr.slice 22 (.slice A n c) none (some (.int .i64 (n : Int))) (some (.int .i64 (n : Int)))).run Tryz.prog W = .ok (.slice A n n) W := by
  obtain ⟨i, hi, _, hs1, _⟩ := info_parts info_u8
  have he : Tryz.prog.elem 22 = 5 := by kernel_rfl
  have hb : (Instr.sliceBounds true n c none (some (.int .i64 (n : Int))) (some (.int .i64 (n : Int)))).run Tryz.prog W = .ok (0, n, n) W := by
    simp [Instr.sliceBounds, go_sem, hnc]
  rw [run_slice_any W 22 A n c (by rw [he]; exact Tryz.underlying22), hb]
  simp [sizeOf, typeInfo, he, hi, hs1, sliced, Result.andThen]
  intro _
  cases A <;> simp [Addr.add]
/-- A row of noughts. -/
def nulls (n : Nat) : Array Value := ((List.replicate n (0 : UInt8)).map bv).toArray
theorem nulls_made (n : Nat) : madeCells #[Value.int .u8 0] n = nulls n := by
  unfold madeCells nulls
  apply Array.ext
  · simp
  · intro i h1 h2
    simp [Nat.mod_one, bv]
/-- 'make([]byte, n)'. -/
theorem make_bytes (n : Nat) (z : Int) (hz : (n : Int) = z) (hn : n ≤ 100000) (W : World) :
    (Instr.makeSlice 22 (.int .i64 z) (.int .i64 z)).run Tryz.prog W = .ok (.slice (some ⟨W.heap.size, 0, none⟩) n n) (W.alloc (.cells (nulls n) 5)) := by
  subst hz
  obtain ⟨i, hi, hz, hs, hb⟩ := info_parts info_u8
  rw [run_make (P := Tryz.prog) W 22 5 i (.int .u8 0) Tryz.underlying22 hi hz .i64 .i64 n n (by omega) (Int.le_refl _) (by rw [hb]; omega) (by omega), hs]
  have e : (Value.int .u8 0).cells = #[Value.int .u8 0] := rfl
  rw [e, Int.toNat_natCast, Nat.mul_one, nulls_made]
theorem rd_nulls (W : World) (n : Nat) : Rd (W.alloc (.cells (nulls n) 5)) (some ⟨W.heap.size, 0, none⟩) (List.replicate n 0) := Rd.litF W _ (0, 0)
theorem ofInt_nat64 (a : Nat) (ha : a < 9223372036854775808) : (BitVec.ofInt 64 (a : Int)).toNat = a := by
  rw [BitVec.ofInt_natCast, BitVec.toNat_ofNat]; exact Nat.mod_eq_of_lt (by omega)
theorem or_nat64 (a b : Nat) (ha : a < 9223372036854775808) (hb : b < 9223372036854775808) : bits .or .i64 (a : Int) (b : Int) = ((a ||| b : Nat) : Int) := by
  have hx : a ||| b < 2 ^ 63 := Nat.or_lt_two_pow (by omega) (by omega)
  show IntKind.i64.wrap ((BitVec.ofInt 64 (a : Int) ||| BitVec.ofInt 64 (b : Int)).toNat : Int) = _
  rw [BitVec.toNat_or, ofInt_nat64 a ha, ofInt_nat64 b hb, IntKind.wrap_i64]
  omega
end Go.Proofs.YtncpkblgiepdpaaGreat
