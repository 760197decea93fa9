/- Pad of the program. No condition but that the bytes can be read, and are 5000 at most. -/
import Derived.Test.YthpcmceomamadaaShaH
import Derived.Laws.CopyOwn
set_option linter.unusedVariables false
set_option linter.unusedSimpArgs false
namespace Go.Proofs.Ythpcmceomamadaa
open Go.RowKit

/-- n bytes, by a function. -/
def rowB (n : Nat) (f : Nat → UInt8) : Array Value := (((List.range n).map f).map bv).toArray
theorem rowB_size (n : Nat) (f : Nat → UInt8) : (rowB n f).size = n := by simp [rowB]
theorem rowB_get (n : Nat) (f : Nat → UInt8) (j : Nat) (hj : j < n) : (rowB n f)[j]? = some (bv (f j)) := by simp [rowB, hj]
theorem rowB_congr (n : Nat) {f g : Nat → UInt8} (h : ∀ j, j < n → f j = g j) : rowB n f = rowB n g := by
  unfold rowB
  rw [List.map_congr_left (f := f) (g := g) (fun j hj => h j (List.mem_range.1 hj))]
theorem rowB_ext (n : Nat) (f : Nat → UInt8) (a : Array Value) (hs : a.size = n) (h : ∀ j, j < n → a[j]? = some (bv (f j))) : a = rowB n f := by
  apply Array.ext_getElem?
  intro j
  by_cases hj : j < n
  · rw [h j hj, rowB_get _ _ _ hj]
  · rw [Array.getElem?_eq_none (by omega), Array.getElem?_eq_none (by rw [rowB_size]; omega)]
theorem rowB_set (n : Nat) (f : Nat → UInt8) (i : Nat) (x : UInt8) : (rowB n f).setIfInBounds i (bv x) = rowB n (fun j => if j = i then x else f j) := by
  refine rowB_ext n _ _ (by simp [rowB_size]) fun j hj => ?_
  by_cases e : i = j
  · subst e
    rw [Array.getElem?_setIfInBounds_self_of_lt (by rw [rowB_size]; exact hj), if_pos rfl]
  · rw [Array.getElem?_setIfInBounds_ne e, rowB_get _ _ _ hj, if_neg (fun h => e h.symm)]
theorem rowB_one (n : Nat) (f : Nat → UInt8) : (rowB n f).all (·.oneCell') = true := by
  unfold rowB
  simp only [List.all_toArray, List.all_map, List.all_eq_true]
  intro x _
  rfl

/-- A block that holds n bytes. -/
def Hb (w : World) (g : Nat) (t : TypeId) (n : Nat) (f : Nat → UInt8) : Prop := w.heap[g]? = some (.cells (rowB n f) t (0, 0))
theorem Hb.cell {w : World} {g : Nat} {t : TypeId} {n : Nat} {f : Nat → UInt8} (h : Hb w g t n f) {j : Nat} (hj : j < n) : w.cell? ⟨g, j, none⟩ = some (.int .u8 ((f j).toNat : Int)) := by
  rw [cell_of_row w g j _ _ _ h, rowB_get _ _ _ hj]
  rfl
theorem Hb.free {w : World} {g : Nat} {t : TypeId} {n : Nat} {f : Nat → UInt8} (h : Hb w g t n f) (j : Nat) : w.frozen? ⟨g, j, none⟩ = false := frozen_of_row w g j _ _ h
theorem Hb.drewN {w : World} {g : Nat} {t : TypeId} {n : Nat} {f : Nat → UInt8} (h : Hb w g t n f) (k : Nat) : Hb (w.drewN k) g t n f := h
theorem Hb.lt {w : World} {g : Nat} {t : TypeId} {n : Nat} {f : Nat → UInt8} (h : Hb w g t n f) : g < w.heap.size := (Array.getElem?_eq_some_iff.1 h).1
theorem Hb.below {w w' : World} {g : Nat} {t : TypeId} {n : Nat} {f : Nat → UInt8} (h : Hb w g t n f) (hb : Below w.heap.size w w') : Hb w' g t n f := (hb.block g h.lt).trans h
theorem Hb.alloc {w : World} {g : Nat} {t : TypeId} {n : Nat} {f : Nat → UInt8} (h : Hb w g t n f) (o : Obj) : Hb (w.alloc o) g t n f := (Below.heap_alloc w o g h.lt).trans h
theorem Hb.other {w : World} {g : Nat} {t : TypeId} {n : Nat} {f : Nat → UInt8} (h : Hb w g t n f) {p : Addr} (hp : g ≠ p.block) (v : Value) : Hb (w.setCell p v) g t n f := (Below.heap_setCell _ _ _ _ hp).trans h
theorem Hb.set {w : World} {g : Nat} {t : TypeId} {n : Nat} {f f' : Nat → UInt8} (h : Hb w g t n f) (i : Nat) (x : UInt8) (v : Value) (hv : v = bv x) (hf : ∀ j, j < n → f' j = if j = i then x else f j) : Hb (w.setCell ⟨g, i, none⟩ v) g t n f' := by
  subst hv
  have e : rowB n f' = (rowB n f).setIfInBounds i (bv x) := by rw [rowB_set]; exact rowB_congr n hf
  unfold Hb
  rw [e]
  exact heap_setCell_same w g i _ _ _ h
theorem Hb.turn {w : World} {g : Nat} {t : TypeId} {n : Nat} {f f' : Nat → UInt8} (h : Hb w g t n f) (hf : ∀ j, j < n → f j = f' j) : Hb w g t n f' := by
  unfold Hb at h ⊢
  rw [← rowB_congr n hf]
  exact h
theorem Hb.own {w : World} {g base n : Nat} {f : Nat → UInt8} (h : Hb w g 5 n f) (hb : base ≤ g) (hn : n ≤ maxLen) : Own w base (.slice (some ⟨g, 0, none⟩) n n) ((List.range n).map f) := by
  unfold Own
  rw [List.length_map, List.length_range]
  refine ⟨by simp, .inr ⟨g, n, _, rfl, hb, h, Nat.le_refl _, hn, by rw [rowB_size]; simp, ?_⟩⟩
  unfold rowB
  rw [List.take_of_length_le (by simp)]


def GotBytes (w : World) (l : List UInt8) (e : Ending) (w' : World) : Prop := ∃ v, e = .returned v ∧ Own w' w.heap.size v l ∧ Below w.heap.size w w'

/-- A row of noughts. -/
def nulls (n : Nat) : Array Value := ((List.replicate n (0 : UInt8)).map bv).toArray
theorem nulls_made (n : Nat) : madeCells #[Value.int .u8 0] n = nulls n := by
  unfold madeCells nulls
  apply Array.ext
  · simp
  · intro i h1 h2
    simp [Nat.mod_one, bv]
/-- 'make([]byte, n)'. -/
theorem make_bytes (n : Nat) (z : Int) (hz : (n : Int) = z) (hn : n ≤ 1000000) (W : World) :
    (Instr.makeSlice 28 (.int .i64 z) (.int .i64 z)).run Try.prog W = .ok (.slice (some ⟨W.heap.size, 0, none⟩) n n) (W.alloc (.cells (nulls n) 5)) := by
  subst hz
  obtain ⟨i, hi, hz, hs, hb⟩ := info_parts info_u8
  rw [run_make (P := Try.prog) W 28 5 i (.int .u8 0) Try.underlying28 hi hz .i64 .i64 n n (by omega) (Int.le_refl _) (by rw [hb]; omega) (by omega), hs]
  have e : (Value.int .u8 0).cells = #[Value.int .u8 0] := rfl
  rw [e, Int.toNat_natCast, Nat.mul_one, nulls_made]

theorem info_u8s : (Try.prog.info? 5).map (·.size) = some 1 := by kernel_rfl

theorem pad_copied (l : List UInt8) (N n : Nat) (hl : l.length = n) (hn : n ≤ N) : (splice ((List.replicate N (0 : UInt8)).map bv) 0 (l.map bv)).toArray = rowB N (fun j => if j < n then l.getD j 0 else 0) := by
  subst hl
  have e : splice ((List.replicate N (0 : UInt8)).map bv) 0 (l.map bv) = (l ++ List.replicate (N - l.length) 0).map bv := by
    simp [splice]
  rw [e]
  refine rowB_ext _ _ _ (by simp; omega) fun j hj => ?_
  by_cases h : j < l.length
  · rw [if_pos h, List.getElem?_toArray, List.getElem?_map, List.getElem?_append_left h, List.getD_eq_getElem?_getD, List.getElem?_eq_getElem h]
    rfl
  · rw [if_neg h, List.getElem?_toArray, List.getElem?_map, List.getElem?_append_right (by omega), List.getElem?_replicate, if_pos (by omega)]
    rfl

theorem pad_byte (n k : Nat) : Value.int IntKind.u8 (8 * (n : Int) / 2 ^ (8 * k) % 256) = bv (UInt8.ofNat (8 * n / 2 ^ (8 * k))) := by
  unfold bv
  rw [UInt8.toNat_ofNat']
  congr 1

set_option maxHeartbeats 2000000 in
set_option maxRecDepth 100000 in
theorem pad_any (A : Option Addr) (n c : Nat) (l : List UInt8) (w : World) (hl : l.length = n) (hr : Rd w A l) (hn : n ≤ 5000) :
    Calls Try.prog 13 #[.slice A n c] w (GotBytes w (padE l)) := by
  subst hl
  obtain ⟨N, hN⟩ : ∃ N, padN l.length = N := ⟨_, rfl⟩
  obtain ⟨n, hln⟩ : ∃ n, l.length = n := ⟨_, rfl⟩
  obtain ⟨r1, r2, r3⟩ := padN_room l.length
  rw [hN, hln] at r1 r2
  rw [hln] at hn ⊢
  have q1 : ((n : Int) + 1 + 8 + 64 - 1) / 64 * 64 = (N : Int) := by
    unfold padN at hN
    omega
  have hmk := make_bytes N (N : Int) rfl (by omega)
  have HL := Lib.hid hln
  have HN := Lib.hid hN
  clear hln hN
  have p1 : (l.map bv).length = Nat.min n N := by
    rw [List.length_map, HL.out]
    exact (Nat.min_eq_left (by omega)).symm
  have p2 : 0 < (l.map bv).length → (some ⟨w.heap.size, 0, none⟩ : Option Addr) = some ⟨w.heap.size, 0, none⟩ ∧ ∃ ad, A = some ad ∧ ∀ j v, (l.map bv)[j]? = some v → (w.alloc (.cells (nulls N) 5)).cell? (ad.add j) = some v := by
    intro h0
    obtain ⟨ad, e, hc⟩ := hr.alloc (.cells (nulls N) 5) (by simpa using h0)
    refine ⟨rfl, ad, e, fun j v hv => ?_⟩
    rw [List.getElem?_map] at hv
    obtain ⟨x, hx, rfl⟩ := Option.map_eq_some_iff.1 hv
    obtain ⟨hj, rfl⟩ := List.getElem?_eq_some_iff.1 hx
    exact hc j hj
  have p3 : 0 + (l.map bv).length ≤ ((List.replicate N (0 : UInt8)).map bv).length := by
    rw [List.length_map, List.length_map, List.length_replicate, HL.out]
    omega
  have P1 := Lib.hid p1
  have P2 := Lib.hid p2
  have P3 := Lib.hid p3
  clear p1 p2 p3 hr
  go_enter Try.func13, Try.ntmps13
  go_wp2_with ((with_reducible refine wpList_copy_splice rfl (.tmp 19) (.tmp 20) 28 28 rfl 5 Try.underlying28 info_u8s (some ⟨w.heap.size, 0, none⟩) A N N n c rfl rfl w.heap.size 0 ((List.replicate N (0 : UInt8)).map bv) 5 (heap_alloc_new w _) (l.map bv) P1.out P2.out P3.out (bv_one l) w.heap.size w (bl_alloc (Below.refl _ _) _) (Nat.le_refl _) ?_))
  rintro w1 H1 hB1
  have h1 : Hb w1 w.heap.size 5 N (fun j => if j < n then l.getD j 0 else 0) := by
    have h := H1.out
    rw [← List.map_replicate, pad_copied l N n HL.out (by omega)] at h
    exact h
  have cn := h1.cell (j := n) (by omega)
  have fn := h1.free n
  have HB1 := Lib.hid h1
  have HW1 := Lib.hid hB1
  have hnN : n < N := by omega
  clear H1 h1 hB1 hmk q1 P1 P2 P3
  go_wp2
  have h0 : Hb (w1.setCell ⟨w.heap.size, n, none⟩ (.int .u8 128)) w.heap.size 5 N (padI l 0) := HB1.out.set n 128 _ rfl (fun j hj => by
    have h := padI_zero l j (by rw [HN.out]; exact hj)
    rw [HL.out] at h
    exact h)
  have hB0 : Below w.heap.size w (w1.setCell ⟨w.heap.size, n, none⟩ (.int .u8 128)) := HW1.out.setCell (p := ⟨w.heap.size, n, none⟩) (Nat.le_refl _) _
  have K0 := Lib.hid h0
  have KB := Lib.hid hB0
  clear h0 hB0 HB1 HW1 cn fn
  go_loopw [30] (fun i wr => ∃ k : Nat, k ≤ 8 ∧ i = .int .i64 k ∧ Hb wr w.heap.size 5 N (padI l k) ∧ Below w.heap.size w wr) (fun i _ => 8 - (intOf i).toNat)
  case atStart => exact ⟨0, by omega, rfl, K0.out, KB.out⟩
  case round =>
    clear K0 KB
    obtain ⟨k, hk, rfl, h1, hB⟩ := hrel
    by_cases hlt : k < 8
    · obtain ⟨m, hm⟩ : ∃ m, N = m + 1 + k := ⟨N - 1 - k, by omega⟩
      have hmN : m < N := by omega
      have e1 : (N : Int) - 1 - (k : Int) = (m : Int) := by omega
      have cm := h1.cell hmN
      have fm := h1.free m
      have HM := Lib.hid hm
      have H1 := Lib.hid h1
      have HB := Lib.hid hB
      clear hm h1 hB
      go_wp2
      refine ⟨⟨k + 1, by omega, by go_num, H1.out.set m _ _ (pad_byte n k) (fun j hj => ?_), HB.out.setCell (p := ⟨w.heap.size, m, none⟩) (Nat.le_refl _) _⟩, by simp [intOf]; omega⟩
      have h := padI_step l k j hlt (by rw [HN.out]; exact hj)
      have hm : padN l.length - 1 - k = m := by rw [HN.out]; have := HM.out; omega
      rw [hm, HL.out] at h
      exact h
    · obtain rfl : k = 8 := by omega
      have H1 := Lib.hid h1
      have HB := Lib.hid hB
      clear h1 hB
      go_wp2
      go_ret
      refine ⟨_, rfl, ?_, HB.out⟩
      have h := H1.out.own (base := w.heap.size) (Nat.le_refl _) (by simp only [maxLen]; omega)
      unfold padE
      rw [HN.out]
      exact h

end Go.Proofs.Ythpcmceomamadaa
