/- The reader of patterns, its bytes: look, skips, one, escape, digit, class, stretch; and what is plain, and a sign. No condition. -/
import Derived.Test.YteedmkokbapkgaaDoorSetF
import Derived.Test.YteedmkokbapkgaaDoorRgP
import Derived.Lib.Bytealg
import Derived.Laws.ResultCell
import Derived.Laws.Externs
import Derived.WalkSmall
set_option linter.unusedVariables false
set_option linter.unusedSimpArgs false
namespace Go.Proofs.YteedmkokbapkgaaDoor
open Go.RowKit

theorem letter_at (l : List UInt8) (j : Nat) (hj : j < l.length) (z : Int) (hz : z = (j : Int)) (W : World) : (Instr.index 9 (.string ⟨l.toArray⟩) (.int .i64 z)).run Tryd.prog W = .ok (.int .u8 ((l.getD j 0).toNat : Int)) W := by
  subst hz
  have hs : (⟨l.toArray⟩ : ByteArray).size = l.length := by simp [ByteArray.size]
  rw [run_index_string W 9 _ .i64 j Tryd.underlying9, dif_pos ⟨by omega, by rw [hs]; omega⟩]
  have e : (⟨l.toArray⟩ : ByteArray)[(j : Int).toNat]'(by rw [hs]; simpa using hj) = l.getD j 0 := by
    rw [List.getD_eq_getElem?_getD, List.getElem?_eq_getElem hj]
    rfl
  rw [e]
theorem len_at (l : List UInt8) (ts : Array TypeId) (ty : TypeId) (hts : ts = #[9]) (W : World) : (Builtin.len_ ts ty #[.string ⟨l.toArray⟩]).run Tryd.prog W = .ok (.int .i64 (l.length : Int)) W := by
  subst hts
  rw [run_len_string W 9 ty _ Tryd.underlying9]
  simp [ByteArray.size, goInt]

/-! Which place a byte has in a list. -/
def idxI : Option Nat → Int
  | none => -1
  | some i => (i : Int)
theorem index_is : ∀ (l : List UInt8) (b : UInt8), Lib.indexByte l b = idxI (idxB l b)
  | [], b => rfl
  | x :: l, b => by
    rw [Lib.indexByte, index_is l b, idxB]
    by_cases h : x = b
    · subst h; simp [idxI]
    · rw [if_neg h, if_neg (by simp [h])]
      cases idxB l b with
      | none => rfl
      | some i =>
        rw [if_neg (by simp [idxI]; try omega)]
        simp [idxI]
theorem idx_lt : ∀ (l : List UInt8) (b : UInt8) (i : Nat), idxB l b = some i → i < l.length
  | [], b, i, h => by cases h
  | x :: l, b, i, h => by
    rw [idxB] at h
    split at h
    · obtain rfl := Option.some.inj h; simp
    · cases hi : idxB l b with
      | none => rw [hi] at h; cases h
      | some j =>
        rw [hi] at h
        obtain rfl := Option.some.inj h
        have := idx_lt l b j hi
        simp; omega
theorem indexByte_run (l : List UInt8) (b : UInt8) (w : World) : (callFunc 102 #[.string ⟨l.toArray⟩, .int .u8 (b.toNat : Int)]).run Tryd.prog w = .ok (.value (.int .i64 (idxI (idxB l b)))) w := by
  rw [run_callFunc_extern Tryd.func102 (by kernel_rfl) (by kernel_rfl) (by kernel_rfl) (e := Extern.BytealgIndexByte.indexByte) (by kernel_rfl), Lib.run_indexByteString]
  have e : ((b.toNat : Int)).toNat.toUInt8 = b := by simp
  rw [e, show (⟨l.toArray⟩ : ByteArray).data.toList = l from rfl, index_is]
  rfl
theorem indexByte_any (l : List UInt8) (b : UInt8) (w : World) : Calls Tryd.prog 91 #[.string ⟨l.toArray⟩, .int .u8 (b.toNat : Int)] w fun e w' => e = .returned (.int .i64 (idxI (idxB l b))) ∧ w = w' := by
  have hx := fun (W : World) => indexByte_run l b W
  go_enter Tryd.func91, Tryd.ntmps91
  go_wp2
  go_ret
  exact ⟨rfl, rfl⟩
def GotT (w : World) (b : Bool) (e : Ending) (w' : World) : Prop := e = .returned (.bool b) ∧ w = w'
theorem has_list (l : List UInt8) (b : UInt8) (w : World) : Calls Tryd.prog 96 #[.string ⟨l.toArray⟩, .int .u8 (b.toNat : Int)] w (GotT w (hasB l b)) := by
  cases hi : idxB l b with
  | none =>
    have hb : hasB l b = false := by rw [hasB, hi]; rfl
    have hd : decide ((idxI none : Int) ≥ 0) = false := by simp [idxI]
    go_enter Tryd.func96, Tryd.ntmps96
    go_wp2_with fail
    refine (indexByte_any l b _).mono ?_
    rintro e w1 ⟨rfl, rfl⟩
    rw [hi]
    go_wp2_with fail
    go_ret
    exact ⟨by rw [hb]; rfl, rfl⟩
  | some i =>
    have hb : hasB l b = true := by rw [hasB, hi]; rfl
    go_enter Tryd.func96, Tryd.ntmps96
    go_wp2_with fail
    refine (indexByte_any l b _).mono ?_
    rintro e w1 ⟨rfl, rfl⟩
    rw [hi]
    go_wp2_with fail
    go_ret
    refine ⟨?_, rfl⟩
    rw [hb]
    simp [idxI]

theorem plain_any (sg : List UInt8) (b : UInt8) (w : World) : Calls Tryd.prog 92 #[.int .u8 (b.toNat : Int), .string ⟨sg.toArray⟩] w (GotT w (plainB b sg)) := by
  obtain ⟨n, hn⟩ : ∃ n, b.toNat = n := ⟨_, rfl⟩
  have e1 : decide (32 ≤ b) = decide (32 ≤ n) := by rw [← hn]; simp [UInt8.le_iff_toNat_le]
  have e2 : decide (b ≤ 126) = decide (n ≤ 126) := by rw [← hn]; simp [UInt8.le_iff_toNat_le]
  unfold plainB
  rw [e1, e2]
  have hh := has_list sg b
  rw [hn] at hh ⊢
  have HN := Lib.hid hn
  clear hn e1 e2
  by_cases h1 : 32 ≤ n
  · have b1 : decide ((32 : Int) ≤ (n : Int)) = true := by simp; omega
    have c1 : decide (32 ≤ n) = true := by simp; omega
    by_cases h2 : n ≤ 126
    · have b2 : decide ((n : Int) ≤ 126) = true := by simp; omega
      have c2 : decide (n ≤ 126) = true := by simp; omega
      rw [c1, c2]
      clear c1 c2 h1 h2
      generalize hasB sg b = t at *
      go_enter Tryd.func92, Tryd.ntmps92
      go_wp2_with fail
      refine (hh _).mono ?_
      rintro e w1 ⟨rfl, rfl⟩
      go_wp2_with fail
      go_ret
      exact ⟨by simp, rfl⟩
    · have b2 : decide ((n : Int) ≤ 126) = false := by simp; omega
      have c2 : decide (n ≤ 126) = false := by simp; omega
      rw [c1, c2]
      clear c1 c2 h1 h2
      go_enter Tryd.func92, Tryd.ntmps92
      go_wp2_with fail
      go_ret
      exact ⟨by simp, rfl⟩
  · have b1 : decide ((32 : Int) ≤ (n : Int)) = false := by simp; omega
    have c1 : decide (32 ≤ n) = false := by simp; omega
    rw [c1]
    clear c1 h1
    go_enter Tryd.func92, Tryd.ntmps92
    go_wp2_with fail
    go_ret
    exact ⟨by simp, rfl⟩
theorem sign_any (b : UInt8) (w : World) : Calls Tryd.prog 93 #[.int .u8 (b.toNat : Int)] w (GotT w (signB b)) := by
  unfold signB
  cases h1 : hasB sgA b with
  | true =>
    go_enter Tryd.func93, Tryd.ntmps93
    go_wp2_with fail
    refine (has_list sgA b _).mono ?_
    rintro e w1 ⟨rfl, rfl⟩
    rw [h1]
    go_wp2_with fail
    go_ret
    exact ⟨by simp, rfl⟩
  | false =>
    go_enter Tryd.func93, Tryd.ntmps93
    go_wp2_with fail
    refine (has_list sgA b _).mono ?_
    rintro e w1 ⟨rfl, rfl⟩
    rw [h1]
    go_wp2_with fail
    refine (has_list sgC b _).mono ?_
    rintro e w1 ⟨rfl, rfl⟩
    generalize hasB sgC b = t at *
    go_wp2_with fail
    go_ret
    exact ⟨by simp, rfl⟩

/-! A reader in memory. -/
def cellsR (n : RN) : List Value := [.int .i64 n.kind, dv n.set.w0, dv n.set.w1, dv n.set.w2, dv n.set.w3, .int .i64 n.a, .int .i64 n.b]
def cellsN (l : List RN) : List Value := l.flatMap cellsR
/-- The reader at block g: the text s, of which r is left, and the nodes l. -/
structure RdAt (n0 g : Nat) (s r : List UInt8) (l : List RN) (w : World) : Prop where
  nodes : ∃ v, w.heap[g]? = some (.cells #[.string ⟨s.toArray⟩, .int .i64 ((s.length - r.length : Nat) : Int), v] 107 (0, 0)) ∧ w.ownsRow n0 59 7 v l.length (cellsN l) ∧ v.ownBlock ≠ some g
  base : n0 ≤ g
  left : ∃ u, s = u ++ r
  short : s.length ≤ 1024
  few : l.length + 2 * r.length ≤ 2060

theorem RdAt.cells {n0 g : Nat} {s r : List UInt8} {l : List RN} {w : World} (h : RdAt n0 g s r l w) : ∃ k : Nat, Hid (k = s.length - r.length) ∧ Hid (k + r.length = s.length) ∧ k ≤ 1024 ∧
    w.cell? ⟨g, 0, none⟩ = some (.string ⟨s.toArray⟩) ∧ w.cell? ⟨g, 1, none⟩ = some (.int .i64 (k : Int)) ∧ w.frozen? ⟨g, 1, none⟩ = false ∧ Hid (∀ (x : UInt8) (y : List UInt8), r = x :: y → s.getD k 0 = x) := by
  obtain ⟨v, hg, hv, hne⟩ := h.nodes
  obtain ⟨u, hu⟩ := h.left
  have h1 := h.short
  refine ⟨s.length - r.length, rfl, ?_, by omega, ?_, ?_, frozen_of_row w g 1 _ _ hg, fun x y e => ?_⟩
  · unfold Hid; rw [hu]; simp
  · rw [cell_of_row w g _ _ _ _ hg]; rfl
  · rw [cell_of_row w g _ _ _ _ hg]; rfl
  · rw [hu, e]
    simp
theorem look_cons (x : UInt8) (y : List UInt8) : look (x :: y) = x := rfl

theorem RdAt.grown {n0 g : Nat} {s r : List UInt8} {l : List RN} {w w' : World} {row : Option Nat} (h : RdAt n0 g s r l w) (hg : w.grownBy w' row) (h1 : row ≠ some g) (h2 : ∀ v : Value, w.heap[g]? = some (.cells #[.string ⟨s.toArray⟩, .int .i64 ((s.length - r.length : Nat) : Int), v] 107 (0, 0)) → v.ownBlock = none ∨ v.ownBlock ≠ row) : RdAt n0 g s r l w' := by
  obtain ⟨v, hv, hr, hne⟩ := h.nodes
  exact ⟨⟨v, (hg.block g (Array.getElem?_eq_some_iff.1 hv).1 (fun e => h1 e.symm)).trans hv, World.ownsRow.kept hr hg (h2 v hv), hne⟩, h.base, h.left, h.short, h.few⟩
theorem RdAt.below {n0 g : Nat} {s r : List UInt8} {l : List RN} {w w' : World} (h : RdAt n0 g s r l w) (hb : Below w.heap.size w w') : RdAt n0 g s r l w' :=
  h.grown (grown_of_below hb none) (by simp) (fun v _ => by cases v.ownBlock <;> simp)
theorem RdAt.lt {n0 g : Nat} {s r : List UInt8} {l : List RN} {w : World} (h : RdAt n0 g s r l w) : g < w.heap.size := by
  obtain ⟨v, hv, hr, hne⟩ := h.nodes
  exact (Array.getElem?_eq_some_iff.1 hv).1
theorem grown_set (w : World) (b o : Nat) (x : Value) : w.grownBy (w.setCell ⟨b, o, none⟩ x) (some b) := ⟨rfl, rfl, rfl, by simp, fun k _ hk => Below.heap_setCell _ _ _ _ (fun e => hk (by rw [e]))⟩
theorem RdAt.next {n0 g : Nat} {s y : List UInt8} {x : UInt8} {l : List RN} {w : World} (h : RdAt n0 g s (x :: y) l w) (z : Int) (hz : z = ((s.length - (x :: y).length : Nat) : Int) + 1) : RdAt n0 g s y l (w.setCell ⟨g, 1, none⟩ (.int .i64 z)) := by
  obtain ⟨v, hv, hr, hne⟩ := h.nodes
  obtain ⟨u, hu⟩ := h.left
  have e := heap_setCell_same w g 1 _ _ (.int .i64 z) hv
  have ez : z = ((s.length - y.length : Nat) : Int) := by
    rw [hz, hu]
    simp
    omega
  refine ⟨⟨v, ?_, World.ownsRow.kept hr (grown_set w g 1 _) (Or.inr hne), hne⟩, h.base, ⟨u ++ [x], by rw [hu]; simp⟩, h.short, by have := h.few; simp at this; omega⟩
  rw [e, ez]
  rfl

theorem look_any {n0 g : Nat} {s r : List UInt8} {l : List RN} {w : World} (h : RdAt n0 g s r l w) : Calls Tryd.prog 87 #[.pointer (some ⟨g, 0, none⟩)] w fun e w' => e = .returned (.int .u8 ((look r).toNat : Int)) ∧ RdAt n0 g s r l w' ∧ Below w.heap.size w w' := by
  obtain ⟨k, HK, HL, hk, c0, c1, f1, HX⟩ := h.cells
  have hlen := fun ty => len_at s #[9] ty rfl
  have H := Lib.hid h
  clear h
  cases r with
  | nil =>
    have hkl : k = s.length := by have := HL.out; simpa using this
    have hb : (((k : Nat) : Int) == (s.length : Int)) = true := by rw [hkl]; simp
    clear hkl
    go_enter Tryd.func87, Tryd.ntmps87
    go_wp2_with (go_quiet (fail))
    go_ret
    have hB := bl_drewN (Below.refl w.heap.size w) nq
    exact ⟨rfl, H.out.below hB, hB⟩
  | cons x y =>
    have hkl : k < s.length := by have := HL.out; simp at this; omega
    have hb : (((k : Nat) : Int) == (s.length : Int)) = false := by simp; omega
    have hx := letter_at s k hkl (k : Int) rfl
    rw [HX.out x y rfl] at hx
    clear hkl
    go_enter Tryd.func87, Tryd.ntmps87
    go_wp2_with (go_quiet (fail))
    go_ret
    exact ⟨rfl, H.out.below (bl_drewN (bl_drewN (Below.refl _ _) _) _), bl_drewN (bl_drewN (Below.refl _ _) _) _⟩

/-- What a call of the reader answers that goes on. -/
def GotC (w : World) (n0 g : Nat) (s r : List UInt8) (l : List RN) (v : Value) (e : Ending) (w' : World) : Prop := e = .returned v ∧ RdAt n0 g s r l w' ∧ w.grownBy w' (some g)
/-- And one that can't go on, at what is left. -/
def Threw (w : World) (n0 : Nat) (s r : List UInt8) (e : Ending) (w' : World) : Prop := e = .panicked [{ v := .iface 79 (.agg #[.int .i64 ((s.length - r.length : Nat) : Int)]), recovered := false }] ∧ Below n0 w w'

theorem skips_any {n0 g : Nat} {s r : List UInt8} {l : List RN} {w : World} (b : UInt8) (hb : b ≠ 0) (h : RdAt n0 g s r l w) : Calls Tryd.prog 72 #[.pointer (some ⟨g, 0, none⟩), .int .u8 (b.toNat : Int)] w
    (GotC w n0 g s (if look r = b then r.tail else r) l (.bool (decide (look r = b)))) := by
  by_cases hl : look r = b
  · have ht : (((look r).toNat : Int) == (b.toNat : Int)) = true := by rw [hl]; simp
    have H := Lib.hid h
    have HL := Lib.hid hl
    clear h hl
    go_enter Tryd.func72, Tryd.ntmps72
    go_wp2_with fail
    refine (look_any H.out).mono ?_
    rintro e w1 ⟨rfl, h1, hb1⟩
    obtain ⟨k, HK, HL2, hk, c0, c1, f1, HX⟩ := h1.cells
    have H1 := Lib.hid h1
    have hw : wrap64 ((k : Int) + 1) = (k : Int) + 1 := IntWalk.wrap64_in _ ⟨by omega, by omega⟩
    have HB := Lib.hid hb1
    clear h1 hb1
    go_wp2_with fail
    go_ret
    cases r with
    | nil => exact absurd HL.out.symm hb
    | cons x y =>
      refine ⟨rfl, H1.out.next _ (by rw [← HK.out]), (grown_of_below HB.out (some g)).trans (grown_set w1 g 1 _)⟩
  · have ht : (((look r).toNat : Int) == (b.toNat : Int)) = false := by
      simp only [beq_eq_false_iff_ne, ne_eq]
      intro e
      exact hl (UInt8.toNat_inj.1 (by omega))
    have H := Lib.hid h
    have HL := Lib.hid hl
    clear h hl
    go_enter Tryd.func72, Tryd.ntmps72
    go_wp2_with fail
    refine (look_any H.out).mono ?_
    rintro e w1 ⟨rfl, h1, hb1⟩
    have H1 := Lib.hid h1
    have HB := Lib.hid hb1
    clear h1 hb1
    go_wp2_with fail
    go_ret
    exact ⟨rfl, H1.out, grown_of_below HB.out (some g)⟩
theorem look_ne {r : List UInt8} {b : UInt8} (h : look r = b) (hb : b ≠ 0) : ∃ y, r = b :: y := by
  cases r with
  | nil => exact absurd h.symm hb
  | cons x y => exact ⟨y, by rw [← h]; rfl⟩

theorem digit_ok {n0 g : Nat} {s r r' : List UInt8} {l : List RN} {w : World} {i : Nat} (h : RdAt n0 g s r l w) (hr : digM r = .ok i r') : Calls Tryd.prog 105 #[.pointer (some ⟨g, 0, none⟩)] w (GotC w n0 g s r' l (.int .u8 (i : Int))) := by
  cases r with
  | nil => cases hr
  | cons x y =>
    rw [digM] at hr
    cases hi : idxB dgts x with
    | none => rw [hi] at hr; cases hr
    | some j =>
      rw [hi] at hr
      injection hr with e1 e2
      subst e1 e2
      have hj := idx_lt _ _ _ hi
      have hj16 : j < 16 := hj
      have H := Lib.hid h
      have HI := Lib.hid hi
      have hc : IntKind.u8.wrap (j : Int) = (j : Int) := by rw [IntKind.wrap_u8]; omega
      clear h hi hj
      go_enter Tryd.func105, Tryd.ntmps105
      go_wp2_with fail
      refine (look_any H.out).mono ?_
      rintro e w1 ⟨rfl, h1, hb1⟩
      obtain ⟨k, HK, HL2, hk, c0, c1, f1, HX⟩ := h1.cells
      have H1 := Lib.hid h1
      have hw : wrap64 ((k : Int) + 1) = (k : Int) + 1 := IntWalk.wrap64_in _ ⟨by omega, by omega⟩
      have HB := Lib.hid hb1
      clear h1 hb1
      rw [look_cons]
      go_wp2_with fail
      refine (indexByte_any dgts x _).mono ?_
      rintro e w2 ⟨rfl, rfl⟩
      rw [HI.out, idxI]
      go_wp2_with fail
      go_ret
      exact ⟨rfl, H1.out.next _ (by rw [← HK.out]), (grown_of_below HB.out (some g)).trans (grown_set w1 g 1 _)⟩
theorem digit_bad {n0 g : Nat} {s r r' : List UInt8} {l : List RN} {w : World} (h : RdAt n0 g s r l w) (hr : digM r = .bad r') : Calls Tryd.prog 105 #[.pointer (some ⟨g, 0, none⟩)] w (Threw w n0 s r') := by
  have hi : idxB dgts (look r) = none ∧ r = r' := by
    cases r with
    | nil => injection hr with hr; exact ⟨rfl, hr⟩
    | cons x y =>
      rw [digM] at hr
      cases hi : idxB dgts x with
      | none => rw [hi] at hr; injection hr with hr; exact ⟨hi, hr⟩
      | some j => rw [hi] at hr; cases hr
  obtain ⟨hi, rfl⟩ := hi
  have H := Lib.hid h
  have HI := Lib.hid hi
  clear h hi hr
  go_enter Tryd.func105, Tryd.ntmps105
  go_wp2_with fail
  refine (look_any H.out).mono ?_
  rintro e w1 ⟨rfl, h1, hb1⟩
  obtain ⟨k, HK, HL2, hk, c0, c1, f1, HX⟩ := h1.cells
  have HB := Lib.hid hb1
  have HN := H.out.lt
  clear h1 hb1
  go_wp2_with fail
  refine (indexByte_any dgts (look r) _).mono ?_
  rintro e w2 ⟨rfl, rfl⟩
  rw [HI.out, idxI]
  go_wp2_with fail
  exact ⟨rfl, by rw [← HK.out], HB.out.mono (by have := H.out.base; omega)⟩

end Go.Proofs.YteedmkokbapkgaaDoor
