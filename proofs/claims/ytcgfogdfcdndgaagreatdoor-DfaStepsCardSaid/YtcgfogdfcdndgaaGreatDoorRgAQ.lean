/- The reader of patterns, its bytes: look, skips, one, escape, digit, class, stretch; and what is plain, and a sign. No condition. -/
import Derived.Test.YtcgfogdfcdndgaaGreatDoorSetFQ
import Derived.Test.YtcgfogdfcdndgaaGreatDoorSetMQ
import Derived.Lib.Bytealg
import Derived.Laws.ResultCell
import Derived.Laws.Externs
import Derived.WalkSmall
set_option linter.unusedVariables false
set_option linter.unusedSimpArgs false
namespace Go.Proofs.YtcgfogdfcdndgaaGreatDoor
open Go.RowKit

theorem letter_at (l : List UInt8) (j : Nat) (hj : j < l.length) (z : Int) (hz : z = (j : Int)) (W : World) : (Instr.index 9 (.string ⟨l.toArray⟩) (.int .i64 z)).run Tryz.prog W = .ok (.int .u8 ((l.getD j 0).toNat : Int)) W := by
  subst hz
  have hs : (⟨l.toArray⟩ : ByteArray).size = l.length := by simp [ByteArray.size]
  rw [run_index_string W 9 _ .i64 j Tryz.underlying9, dif_pos ⟨by omega, by rw [hs]; omega⟩]
  have e : (⟨l.toArray⟩ : ByteArray)[(j : Int).toNat]'(by rw [hs]; simpa using hj) = l.getD j 0 := by
    rw [List.getD_eq_getElem?_getD, List.getElem?_eq_getElem hj]
    rfl
  rw [e]
theorem len_at (l : List UInt8) (ts : Array TypeId) (ty : TypeId) (hts : ts = #[9]) (W : World) : (Builtin.len_ ts ty #[.string ⟨l.toArray⟩]).run Tryz.prog W = .ok (.int .i64 (l.length : Int)) W := by
  subst hts
  rw [run_len_string W 9 ty _ Tryz.underlying9]
  simp [ByteArray.size, goInt]

/-! Which place a byte has in a list. -/
def idxI : Option Nat → Int
  | none => -1
  | some i => (i : Int)
theorem index_is : ∀ (l : List UInt8) (b : UInt8), Lib.indexByte l b = idxI (idxB l b)
  | [], b => rfl
  | x :: l, b => by
    rw [Lib.indexByte, index_is l b, idxB]
    by_cases h : x = b
    · subst h; simp [idxI]
    · rw [if_neg h, if_neg (by simp [h])]
      cases idxB l b with
      | none => rfl
      | some i =>
        rw [if_neg (by simp [idxI]; try omega)]
        simp [idxI]
theorem idx_lt : ∀ (l : List UInt8) (b : UInt8) (i : Nat), idxB l b = some i → i < l.length
  | [], b, i, h => by cases h
  | x :: l, b, i, h => by
    rw [idxB] at h
    split at h
    · obtain rfl := Option.some.inj h; simp
    · cases hi : idxB l b with
      | none => rw [hi] at h; cases h
      | some j =>
        rw [hi] at h
        obtain rfl := Option.some.inj h
        have := idx_lt l b j hi
        simp; omega
theorem indexByte_run (l : List UInt8) (b : UInt8) (w : World) : (callFunc 160 #[.string ⟨l.toArray⟩, .int .u8 (b.toNat : Int)]).run Tryz.prog w = .ok (.value (.int .i64 (idxI (idxB l b)))) w := by
  rw [run_callFunc_extern Tryz.func160 (by kernel_rfl) (by kernel_rfl) (by kernel_rfl) (e := Extern.BytealgIndexByte.indexByte) (by kernel_rfl), Lib.run_indexByteString]
  have e : ((b.toNat : Int)).toNat.toUInt8 = b := by simp
  rw [e, show (⟨l.toArray⟩ : ByteArray).data.toList = l from rfl, index_is]
  rfl
theorem indexByte_any (l : List UInt8) (b : UInt8) (w : World) : Calls Tryz.prog 148 #[.string ⟨l.toArray⟩, .int .u8 (b.toNat : Int)] w fun e w' => e = .returned (.int .i64 (idxI (idxB l b))) ∧ w = w' := by
  have hx := fun (W : World) => indexByte_run l b W
  go_enter Tryz.func148, Tryz.ntmps148
  go_wp2
  go_ret
  exact ⟨rfl, rfl⟩
def GotT (w : World) (b : Bool) (e : Ending) (w' : World) : Prop := e = .returned (.bool b) ∧ w = w'
theorem has_list (l : List UInt8) (b : UInt8) (w : World) : Calls Tryz.prog 144 #[.string ⟨l.toArray⟩, .int .u8 (b.toNat : Int)] w (GotT w (hasB l b)) := by
  cases hi : idxB l b with
  | none =>
    have hb : hasB l b = false := by rw [hasB, hi]; rfl
    have hd : decide ((idxI none : Int) ≥ 0) = false := by simp [idxI]
    go_enter Tryz.func144, Tryz.ntmps144
    go_wp2_with fail
    refine (indexByte_any l b _).mono ?_
    rintro e w1 ⟨rfl, rfl⟩
    rw [hi]
    go_wp2_with fail
    go_ret
    exact ⟨by rw [hb]; rfl, rfl⟩
  | some i =>
    have hb : hasB l b = true := by rw [hasB, hi]; rfl
    go_enter Tryz.func144, Tryz.ntmps144
    go_wp2_with fail
    refine (indexByte_any l b _).mono ?_
    rintro e w1 ⟨rfl, rfl⟩
    rw [hi]
    go_wp2_with fail
    go_ret
    refine ⟨?_, rfl⟩
    rw [hb]
    simp [idxI]

theorem plain_any (sg : List UInt8) (b : UInt8) (w : World) : Calls Tryz.prog 159 #[.int .u8 (b.toNat : Int), .string ⟨sg.toArray⟩] w (GotT w (plainB b sg)) := by
  obtain ⟨n, hn⟩ : ∃ n, b.toNat = n := ⟨_, rfl⟩
  have e1 : decide (32 ≤ b) = decide (32 ≤ n) := by rw [← hn]; simp [UInt8.le_iff_toNat_le]
  have e2 : decide (b ≤ 126) = decide (n ≤ 126) := by rw [← hn]; simp [UInt8.le_iff_toNat_le]
  unfold plainB
  rw [e1, e2]
  have hh := has_list sg b
  rw [hn] at hh ⊢
  have HN := Lib.hid hn
  clear hn e1 e2
  by_cases h1 : 32 ≤ n
  · have b1 : decide ((32 : Int) ≤ (n : Int)) = true := by simp; omega
    have c1 : decide (32 ≤ n) = true := by simp; omega
    by_cases h2 : n ≤ 126
    · have b2 : decide ((n : Int) ≤ 126) = true := by simp; omega
      have c2 : decide (n ≤ 126) = true := by simp; omega
      rw [c1, c2]
      clear c1 c2 h1 h2
      generalize hasB sg b = t at *
      go_enter Tryz.func159, Tryz.ntmps159
      go_wp2_with fail
      refine (hh _).mono ?_
      rintro e w1 ⟨rfl, rfl⟩
      go_wp2_with fail
      go_ret
      exact ⟨by simp, rfl⟩
    · have b2 : decide ((n : Int) ≤ 126) = false := by simp; omega
      have c2 : decide (n ≤ 126) = false := by simp; omega
      rw [c1, c2]
      clear c1 c2 h1 h2
      go_enter Tryz.func159, Tryz.ntmps159
      go_wp2_with fail
      go_ret
      exact ⟨by simp, rfl⟩
  · have b1 : decide ((32 : Int) ≤ (n : Int)) = false := by simp; omega
    have c1 : decide (32 ≤ n) = false := by simp; omega
    rw [c1]
    clear c1 h1
    go_enter Tryz.func159, Tryz.ntmps159
    go_wp2_with fail
    go_ret
    exact ⟨by simp, rfl⟩
theorem sign_any (b : UInt8) (w : World) : Calls Tryz.prog 163 #[.int .u8 (b.toNat : Int)] w (GotT w (signB b)) := by
  unfold signB
  cases h1 : hasB sgA b with
  | true =>
    go_enter Tryz.func163, Tryz.ntmps163
    go_wp2_with fail
    refine (has_list sgA b _).mono ?_
    rintro e w1 ⟨rfl, rfl⟩
    rw [h1]
    go_wp2_with fail
    go_ret
    exact ⟨by simp, rfl⟩
  | false =>
    go_enter Tryz.func163, Tryz.ntmps163
    go_wp2_with fail
    refine (has_list sgA b _).mono ?_
    rintro e w1 ⟨rfl, rfl⟩
    rw [h1]
    go_wp2_with fail
    refine (has_list sgC b _).mono ?_
    rintro e w1 ⟨rfl, rfl⟩
    generalize hasB sgC b = t at *
    go_wp2_with fail
    go_ret
    exact ⟨by simp, rfl⟩

/-! A reader in memory. -/
def cellsR (n : RN) : List Value := [.int .i64 n.kind, dv n.set.w0, dv n.set.w1, dv n.set.w2, dv n.set.w3, .int .i64 n.a, .int .i64 n.b]
def cellsN (l : List RN) : List Value := l.flatMap cellsR
/-- The reader at block g: the text s, of which r is left, and the nodes l. -/
structure RdAt (n0 g : Nat) (s r : List UInt8) (l : List RN) (w : World) : Prop where
  nodes : ∃ v, w.heap[g]? = some (.cells #[.string ⟨s.toArray⟩, .int .i64 ((s.length - r.length : Nat) : Int), v] 143 (0, 0)) ∧ w.ownsRow n0 147 7 v l.length (cellsN l) ∧ v.ownBlock ≠ some g
  base : n0 ≤ g
  left : ∃ u, s = u ++ r
  short : s.length ≤ 1024
  few : l.length + 2 * r.length ≤ 2060

theorem RdAt.cells {n0 g : Nat} {s r : List UInt8} {l : List RN} {w : World} (h : RdAt n0 g s r l w) : ∃ k : Nat, Hid (k = s.length - r.length) ∧ Hid (k + r.length = s.length) ∧ k ≤ 1024 ∧
    w.cell? ⟨g, 0, none⟩ = some (.string ⟨s.toArray⟩) ∧ w.cell? ⟨g, 1, none⟩ = some (.int .i64 (k : Int)) ∧ w.frozen? ⟨g, 1, none⟩ = false ∧ Hid (∀ (x : UInt8) (y : List UInt8), r = x :: y → s.getD k 0 = x) := by
  obtain ⟨v, hg, hv, hne⟩ := h.nodes
  obtain ⟨u, hu⟩ := h.left
  have h1 := h.short
  refine ⟨s.length - r.length, rfl, ?_, by omega, ?_, ?_, frozen_of_row w g 1 _ _ hg, fun x y e => ?_⟩
  · unfold Hid; rw [hu]; simp
  · rw [cell_of_row w g _ _ _ _ hg]; rfl
  · rw [cell_of_row w g _ _ _ _ hg]; rfl
  · rw [hu, e]
    simp
theorem look_cons (x : UInt8) (y : List UInt8) : look (x :: y) = x := rfl

theorem RdAt.grown {n0 g : Nat} {s r : List UInt8} {l : List RN} {w w' : World} {row : Option Nat} (h : RdAt n0 g s r l w) (hg : w.grownBy w' row) (h1 : row ≠ some g) (h2 : ∀ v : Value, w.heap[g]? = some (.cells #[.string ⟨s.toArray⟩, .int .i64 ((s.length - r.length : Nat) : Int), v] 143 (0, 0)) → v.ownBlock = none ∨ v.ownBlock ≠ row) : RdAt n0 g s r l w' := by
  obtain ⟨v, hv, hr, hne⟩ := h.nodes
  exact ⟨⟨v, (hg.block g (Array.getElem?_eq_some_iff.1 hv).1 (fun e => h1 e.symm)).trans hv, World.ownsRow.kept hr hg (h2 v hv), hne⟩, h.base, h.left, h.short, h.few⟩
theorem RdAt.below {n0 g : Nat} {s r : List UInt8} {l : List RN} {w w' : World} (h : RdAt n0 g s r l w) (hb : Below w.heap.size w w') : RdAt n0 g s r l w' :=
  h.grown (grown_of_below hb none) (by simp) (fun v _ => by cases v.ownBlock <;> simp)
theorem RdAt.lt {n0 g : Nat} {s r : List UInt8} {l : List RN} {w : World} (h : RdAt n0 g s r l w) : g < w.heap.size := by
  obtain ⟨v, hv, hr, hne⟩ := h.nodes
  exact (Array.getElem?_eq_some_iff.1 hv).1
theorem grown_set (w : World) (b o : Nat) (x : Value) : w.grownBy (w.setCell ⟨b, o, none⟩ x) (some b) := ⟨rfl, rfl, rfl, by simp, fun k _ hk => Below.heap_setCell _ _ _ _ (fun e => hk (by rw [e]))⟩
theorem RdAt.next {n0 g : Nat} {s y : List UInt8} {x : UInt8} {l : List RN} {w : World} (h : RdAt n0 g s (x :: y) l w) (z : Int) (hz : z = ((s.length - (x :: y).length : Nat) : Int) + 1) : RdAt n0 g s y l (w.setCell ⟨g, 1, none⟩ (.int .i64 z)) := by
  obtain ⟨v, hv, hr, hne⟩ := h.nodes
  obtain ⟨u, hu⟩ := h.left
  have e := heap_setCell_same w g 1 _ _ (.int .i64 z) hv
  have ez : z = ((s.length - y.length : Nat) : Int) := by
    rw [hz, hu]
    simp
    omega
  refine ⟨⟨v, ?_, World.ownsRow.kept hr (grown_set w g 1 _) (Or.inr hne), hne⟩, h.base, ⟨u ++ [x], by rw [hu]; simp⟩, h.short, by have := h.few; simp at this; omega⟩
  rw [e, ez]
  rfl

theorem look_any {n0 g : Nat} {s r : List UInt8} {l : List RN} {w : World} (h : RdAt n0 g s r l w) : Calls Tryz.prog 133 #[.pointer (some ⟨g, 0, none⟩)] w fun e w' => e = .returned (.int .u8 ((look r).toNat : Int)) ∧ RdAt n0 g s r l w' ∧ Below w.heap.size w w' := by
  obtain ⟨k, HK, HL, hk, c0, c1, f1, HX⟩ := h.cells
  have hlen := fun ty => len_at s #[9] ty rfl
  have H := Lib.hid h
  clear h
  cases r with
  | nil =>
    have hkl : k = s.length := by have := HL.out; simpa using this
    have hb : (((k : Nat) : Int) == (s.length : Int)) = true := by rw [hkl]; simp
    clear hkl
    go_enter Tryz.func133, Tryz.ntmps133
    go_wp2_with (go_quiet (fail))
    go_ret
    have hB := bl_drewN (Below.refl w.heap.size w) nq
    exact ⟨rfl, H.out.below hB, hB⟩
  | cons x y =>
    have hkl : k < s.length := by have := HL.out; simp at this; omega
    have hb : (((k : Nat) : Int) == (s.length : Int)) = false := by simp; omega
    have hx := letter_at s k hkl (k : Int) rfl
    rw [HX.out x y rfl] at hx
    clear hkl
    go_enter Tryz.func133, Tryz.ntmps133
    go_wp2_with (go_quiet (fail))
    go_ret
    exact ⟨rfl, H.out.below (bl_drewN (bl_drewN (Below.refl _ _) _) _), bl_drewN (bl_drewN (Below.refl _ _) _) _⟩

/-- What a call of the reader answers that goes on. -/
def GotC (w : World) (n0 g : Nat) (s r : List UInt8) (l : List RN) (v : Value) (e : Ending) (w' : World) : Prop := e = .returned v ∧ RdAt n0 g s r l w' ∧ w.grownBy w' (some g)
/-- And one that can't go on, at what is left. -/
def Threw (w : World) (n0 : Nat) (s r : List UInt8) (e : Ending) (w' : World) : Prop := e = .panicked [{ v := .iface 124 (.agg #[.int .i64 ((s.length - r.length : Nat) : Int)]), recovered := false }] ∧ Below n0 w w'

theorem skips_any {n0 g : Nat} {s r : List UInt8} {l : List RN} {w : World} (b : UInt8) (hb : b ≠ 0) (h : RdAt n0 g s r l w) : Calls Tryz.prog 109 #[.pointer (some ⟨g, 0, none⟩), .int .u8 (b.toNat : Int)] w
    (GotC w n0 g s (if look r = b then r.tail else r) l (.bool (decide (look r = b)))) := by
  by_cases hl : look r = b
  · have ht : (((look r).toNat : Int) == (b.toNat : Int)) = true := by rw [hl]; simp
    have H := Lib.hid h
    have HL := Lib.hid hl
    clear h hl
    go_enter Tryz.func109, Tryz.ntmps109
    go_wp2_with fail
    refine (look_any H.out).mono ?_
    rintro e w1 ⟨rfl, h1, hb1⟩
    obtain ⟨k, HK, HL2, hk, c0, c1, f1, HX⟩ := h1.cells
    have H1 := Lib.hid h1
    have hw : wrap64 ((k : Int) + 1) = (k : Int) + 1 := IntWalk.wrap64_in _ ⟨by omega, by omega⟩
    have HB := Lib.hid hb1
    clear h1 hb1
    go_wp2_with fail
    go_ret
    cases r with
    | nil => exact absurd HL.out.symm hb
    | cons x y =>
      refine ⟨rfl, H1.out.next _ (by rw [← HK.out]), (grown_of_below HB.out (some g)).trans (grown_set w1 g 1 _)⟩
  · have ht : (((look r).toNat : Int) == (b.toNat : Int)) = false := by
      simp only [beq_eq_false_iff_ne, ne_eq]
      intro e
      exact hl (UInt8.toNat_inj.1 (by omega))
    have H := Lib.hid h
    have HL := Lib.hid hl
    clear h hl
    go_enter Tryz.func109, Tryz.ntmps109
    go_wp2_with fail
    refine (look_any H.out).mono ?_
    rintro e w1 ⟨rfl, h1, hb1⟩
    have H1 := Lib.hid h1
    have HB := Lib.hid hb1
    clear h1 hb1
    go_wp2_with fail
    go_ret
    exact ⟨rfl, H1.out, grown_of_below HB.out (some g)⟩
theorem look_ne {r : List UInt8} {b : UInt8} (h : look r = b) (hb : b ≠ 0) : ∃ y, r = b :: y := by
  cases r with
  | nil => exact absurd h.symm hb
  | cons x y => exact ⟨y, by rw [← h]; rfl⟩

theorem digit_ok {n0 g : Nat} {s r r' : List UInt8} {l : List RN} {w : World} {i : Nat} (h : RdAt n0 g s r l w) (hr : digM r = .ok i r') : Calls Tryz.prog 162 #[.pointer (some ⟨g, 0, none⟩)] w (GotC w n0 g s r' l (.int .u8 (i : Int))) := by
  cases r with
  | nil => cases hr
  | cons x y =>
    rw [digM] at hr
    cases hi : idxB dgts x with
    | none => rw [hi] at hr; cases hr
    | some j =>
      rw [hi] at hr
      injection hr with e1 e2
      subst e1 e2
      have hj := idx_lt _ _ _ hi
      have hj16 : j < 16 := hj
      have H := Lib.hid h
      have HI := Lib.hid hi
      have hc : IntKind.u8.wrap (j : Int) = (j : Int) := by rw [IntKind.wrap_u8]; omega
      clear h hi hj
      go_enter Tryz.func162, Tryz.ntmps162
      go_wp2_with fail
      refine (look_any H.out).mono ?_
      rintro e w1 ⟨rfl, h1, hb1⟩
      obtain ⟨k, HK, HL2, hk, c0, c1, f1, HX⟩ := h1.cells
      have H1 := Lib.hid h1
      have hw : wrap64 ((k : Int) + 1) = (k : Int) + 1 := IntWalk.wrap64_in _ ⟨by omega, by omega⟩
      have HB := Lib.hid hb1
      clear h1 hb1
      rw [look_cons]
      go_wp2_with fail
      refine (indexByte_any dgts x _).mono ?_
      rintro e w2 ⟨rfl, rfl⟩
      rw [HI.out, idxI]
      go_wp2_with fail
      go_ret
      exact ⟨rfl, H1.out.next _ (by rw [← HK.out]), (grown_of_below HB.out (some g)).trans (grown_set w1 g 1 _)⟩
theorem digit_bad {n0 g : Nat} {s r r' : List UInt8} {l : List RN} {w : World} (h : RdAt n0 g s r l w) (hr : digM r = .bad r') : Calls Tryz.prog 162 #[.pointer (some ⟨g, 0, none⟩)] w (Threw w n0 s r') := by
  have hi : idxB dgts (look r) = none ∧ r = r' := by
    cases r with
    | nil => injection hr with hr; exact ⟨rfl, hr⟩
    | cons x y =>
      rw [digM] at hr
      cases hi : idxB dgts x with
      | none => rw [hi] at hr; injection hr with hr; exact ⟨hi, hr⟩
      | some j => rw [hi] at hr; cases hr
  obtain ⟨hi, rfl⟩ := hi
  have H := Lib.hid h
  have HI := Lib.hid hi
  clear h hi hr
  go_enter Tryz.func162, Tryz.ntmps162
  go_wp2_with fail
  refine (look_any H.out).mono ?_
  rintro e w1 ⟨rfl, h1, hb1⟩
  obtain ⟨k, HK, HL2, hk, c0, c1, f1, HX⟩ := h1.cells
  have HB := Lib.hid hb1
  have HN := H.out.lt
  clear h1 hb1
  go_wp2_with fail
  refine (indexByte_any dgts (look r) _).mono ?_
  rintro e w2 ⟨rfl, rfl⟩
  rw [HI.out, idxI]
  go_wp2_with fail
  exact ⟨rfl, by rw [← HK.out], HB.out.mono (by have := H.out.base; omega)⟩

end Go.Proofs.YtcgfogdfcdndgaaGreatDoor

/- The reader of patterns: escape, one, stretch, class. No condition. -/
set_option linter.unusedVariables false
set_option linter.unusedSimpArgs false
namespace Go.Proofs.YtcgfogdfcdndgaaGreatDoor
open Go.RowKit

/-- What a call of the reader answers. -/
def Does {α : Type} (w : World) (n0 g : Nat) (s : List UInt8) (l : List RN) (enc : α → Value) : Res α → Ending → World → Prop
  | .ok v r => GotC w n0 g s r l (enc v)
  | .bad r => Threw w n0 s r
  | .out => fun _ _ => True
def encU8 (b : UInt8) : Value := .int .u8 (b.toNat : Int)
def encN8 (i : Nat) : Value := .int .u8 (i : Int)
theorem digit_any {n0 g : Nat} {s r : List UInt8} {l : List RN} {w : World} (h : RdAt n0 g s r l w) : Calls Tryz.prog 162 #[.pointer (some ⟨g, 0, none⟩)] w (Does w n0 g s l encN8 (digM r)) := by
  cases hr : digM r with
  | ok v r' => exact digit_ok h hr
  | bad r' => exact digit_bad h hr
  | out => exact absurd hr (digM_out r)
theorem or_low8 : ∀ a : Nat, a < 16 → ∀ b : Nat, b < 16 → bits .or .u8 ((a : Int) * 16) (b : Int) = ((16 * a + b : Nat) : Int) := by decide +kernel
theorem digM_lt {r r' : List UInt8} {i : Nat} (h : digM r = .ok i r') : i < 16 := by
  cases r with
  | nil => cases h
  | cons b t =>
    rw [digM] at h
    split at h
    · rename_i hi
      injection h with h1 _
      subst h1
      exact idx_lt _ _ _ hi
    · cases h
theorem below_of_grown {n0 g : Nat} {w w' : World} (h : w.grownBy w' (some g)) (h1 : n0 ≤ g) (h2 : g < w.heap.size) : Below n0 w w' :=
  (Below.refl n0 w).grown h (by omega) (fun k e => by cases e; exact h1)
theorem hid_ne {a b : UInt8} (h : ¬ a = b) : ((a.toNat : Int) == (b.toNat : Int)) = false := by
  simp only [beq_eq_false_iff_ne, ne_eq]
  intro e
  exact h (UInt8.toNat_inj.1 (by omega))

theorem post_is {Q R : Ending → World → Prop} {e : Ending} {w : World} (h : Hid (R = Q)) (x : R e w) : Q e w := h.out ▸ x

set_option maxRecDepth 20000 in
theorem escape_any {n0 g : Nat} {s r : List UInt8} {l : List RN} {w : World} (h : RdAt n0 g s r l w) : Calls Tryz.prog 158 #[.pointer (some ⟨g, 0, none⟩)] w (Does w n0 g s l encU8 (escM r)) := by
  have hbase := h.base
  have hlt := h.lt
  generalize hQ : Does w n0 g s l encU8 (escM r) = Q
  have HQ := Lib.hid hQ
  clear hQ
  by_cases hx : look r = 120
  · obtain ⟨y, rfl⟩ := look_ne hx (by decide)
    have H := Lib.hid h
    clear h hx
    go_enter Tryz.func158, Tryz.ntmps158
    go_wp2_with fail
    refine (look_any H.out).mono ?_
    rintro e w1 ⟨rfl, h1, hb1⟩
    obtain ⟨k, HK, HL2, hk, c0, c1, f1, HX⟩ := h1.cells
    have hw : wrap64 ((k : Int) + 1) = (k : Int) + 1 := IntWalk.wrap64_in _ ⟨by omega, by omega⟩
    have G1 := Lib.hid ((grown_of_below hb1 (some g)).trans (grown_set w1 g 1 (.int .i64 ((k : Int) + 1))))
    have H1 := Lib.hid (h1.next ((k : Int) + 1) (by rw [← HK.out]))
    clear h1 hb1 HX HL2 H
    rw [look_cons]
    go_wp2_with fail
    refine (digit_any H1.out).mono ?_
    intro e w2 hd
    cases hd1 : digM y with
    | out => exact absurd hd1 (digM_out y)
    | bad r' =>
      rw [hd1] at hd
      obtain ⟨rfl, hb2⟩ := hd
      have HB2 := Lib.hid hb2
      have B1 := below_of_grown G1.out hbase hlt
      have D1 := Lib.hid hd1
      clear hb2 hd1
      go_wp2_with fail
      refine ⟨rfl, post_is HQ ?_⟩
      rw [escM, if_pos rfl, D1.out]
      exact ⟨rfl, B1.trans HB2.out⟩
    | ok i r1 =>
      rw [hd1] at hd
      obtain ⟨rfl, h2, g2⟩ := hd
      have hi := digM_lt hd1
      have hsh : IntKind.u8.wrap ((i : Int) * 16) = (i : Int) * 16 := by rw [IntKind.wrap_u8]; omega
      have H2 := Lib.hid h2
      have G2 := Lib.hid (G1.out.trans g2)
      have D1 := Lib.hid hd1
      clear h2 g2 hd1 G1 H1
      unfold encN8
      go_wp2_with fail
      refine (digit_any H2.out).mono ?_
      intro e w3 hd
      cases hd2 : digM r1 with
      | out => exact absurd hd2 (digM_out r1)
      | bad r' =>
        rw [hd2] at hd
        obtain ⟨rfl, hb2⟩ := hd
        have HB2 := Lib.hid hb2
        have B1 := below_of_grown G2.out hbase hlt
        have D2 := Lib.hid hd2
        clear hb2 hd2
        go_wp2_with fail
        refine ⟨rfl, post_is HQ ?_⟩
        rw [escM, if_pos rfl, D1.out]
        simp only []
        rw [D2.out]
        exact ⟨rfl, B1.trans HB2.out⟩
      | ok j r2 =>
        rw [hd2] at hd
        obtain ⟨rfl, h3, g3⟩ := hd
        have hj := digM_lt hd2
        have hor := or_low8 i hi j hj
        have H3 := Lib.hid h3
        have G3 := Lib.hid (G2.out.trans g3)
        have D2 := Lib.hid hd2
        clear h3 g3 hd2 G2 H2
        unfold encN8
        go_wp2_with fail
        refine post_is HQ ?_
        rw [escM, if_pos rfl, D1.out]
        simp only []
        rw [D2.out]
        refine ⟨?_, H3.out, G3.out⟩
        have e2 : (UInt8.ofNat (16 * i + j)).toNat = 16 * i + j := by
          simp
          omega
        unfold encU8
        rw [e2]
        rfl
  · have hne : (((look r).toNat : Int) == 120) = false := hid_ne (b := 120) hx
    cases hi : idxB ltrs (look r) with
    | some i =>
      have hhas : hasB ltrs (look r) = true := by rw [hasB, hi]; rfl
      cases r with
      | nil => cases hi
      | cons x y =>
        rw [look_cons] at *
        have hi3 : i < 3 := idx_lt _ _ _ hi
        have hat := fun W => letter_at lttd i hi3 (i : Int) rfl W
        have H := Lib.hid h
        have HI := Lib.hid hi
        have HX0 := Lib.hid hx
        have HH := Lib.hid hhas
        clear h hx hi hhas
        go_enter Tryz.func158, Tryz.ntmps158
        go_wp2_with fail
        refine (look_any H.out).mono ?_
        rintro e w1 ⟨rfl, h1, hb1⟩
        obtain ⟨k, HK, HL2, hk, c0, c1, f1, HX⟩ := h1.cells
        have hw : wrap64 ((k : Int) + 1) = (k : Int) + 1 := IntWalk.wrap64_in _ ⟨by omega, by omega⟩
        have G1 := Lib.hid ((grown_of_below hb1 (some g)).trans (grown_set w1 g 1 (.int .i64 ((k : Int) + 1))))
        have H1 := Lib.hid (h1.next ((k : Int) + 1) (by rw [← HK.out]))
        clear h1 hb1 HX HL2 H
        rw [look_cons]
        go_wp2_with fail
        refine (has_list ltrs x _).mono ?_
        rintro e w2 ⟨rfl, rfl⟩
        rw [HH.out]
        go_wp2_with fail
        refine (indexByte_any ltrs x _).mono ?_
        rintro e w2 ⟨rfl, rfl⟩
        rw [HI.out, idxI]
        go_wp2_with fail
        refine post_is HQ ?_
        rw [escM, if_neg HX0.out, HI.out]
        refine ⟨?_, H1.out, G1.out⟩
        rcases (show i = 0 ∨ i = 1 ∨ i = 2 by omega) with rfl | rfl | rfl <;> rfl
    | none =>
      have hhas : hasB ltrs (look r) = false := by rw [hasB, hi]; rfl
      cases hs : signB (look r) with
      | true =>
        cases r with
        | nil => cases hs
        | cons x y =>
          rw [look_cons] at *
          have H := Lib.hid h
          have HI := Lib.hid hi
          have HX0 := Lib.hid hx
          have HH := Lib.hid hhas
          have HS := Lib.hid hs
          clear h hx hi hhas hs
          go_enter Tryz.func158, Tryz.ntmps158
          go_wp2_with fail
          refine (look_any H.out).mono ?_
          rintro e w1 ⟨rfl, h1, hb1⟩
          obtain ⟨k, HK, HL2, hk, c0, c1, f1, HX⟩ := h1.cells
          have hw : wrap64 ((k : Int) + 1) = (k : Int) + 1 := IntWalk.wrap64_in _ ⟨by omega, by omega⟩
          have G1 := Lib.hid ((grown_of_below hb1 (some g)).trans (grown_set w1 g 1 (.int .i64 ((k : Int) + 1))))
          have H1 := Lib.hid (h1.next ((k : Int) + 1) (by rw [← HK.out]))
          clear h1 hb1 HX HL2 H
          rw [look_cons]
          go_wp2_with fail
          refine (has_list ltrs x _).mono ?_
          rintro e w2 ⟨rfl, rfl⟩
          rw [HH.out]
          go_wp2_with fail
          refine (sign_any x _).mono ?_
          rintro e w2 ⟨rfl, rfl⟩
          rw [HS.out]
          go_wp2_with fail
          refine post_is HQ ?_
          rw [escM, if_neg HX0.out, HI.out]
          simp only []
          rw [if_pos HS.out]
          exact ⟨rfl, H1.out, G1.out⟩
      | false =>
        have hE : escM r = .bad r := by
          cases r with
          | nil => rfl
          | cons x y =>
            rw [look_cons] at hx hi hs
            rw [escM, if_neg hx, hi]
            simp only []
            rw [hs]
            simp
        have H := Lib.hid h
        have HE := Lib.hid hE
        have HH := Lib.hid hhas
        have HS := Lib.hid hs
        clear h hx hi hhas hs hE
        go_enter Tryz.func158, Tryz.ntmps158
        go_wp2_with fail
        refine (look_any H.out).mono ?_
        rintro e w1 ⟨rfl, h1, hb1⟩
        obtain ⟨k, HK, HL2, hk, c0, c1, f1, HX⟩ := h1.cells
        have HB := Lib.hid hb1
        clear h1 hb1 HX HL2 H
        go_wp2_with fail
        refine (has_list ltrs (look r) _).mono ?_
        rintro e w2 ⟨rfl, rfl⟩
        rw [HH.out]
        go_wp2_with fail
        refine (sign_any (look r) _).mono ?_
        rintro e w2 ⟨rfl, rfl⟩
        rw [HS.out]
        go_wp2_with fail
        refine ⟨rfl, post_is HQ ?_⟩
        rw [HE.out]
        exact ⟨by rw [← HK.out], HB.out.mono (by omega)⟩

set_option maxRecDepth 20000 in
theorem one_any {n0 g : Nat} {s r : List UInt8} {l : List RN} {w : World} (sg : List UInt8) (h : RdAt n0 g s r l w) : Calls Tryz.prog 153 #[.pointer (some ⟨g, 0, none⟩), .string ⟨sg.toArray⟩] w (Does w n0 g s l encU8 (oneM sg r)) := by
  have hbase := h.base
  have hlt := h.lt
  generalize hQ : Does w n0 g s l encU8 (oneM sg r) = Q
  have HQ := Lib.hid hQ
  clear hQ
  have hsk := skips_any (l := l) (b := 92) (by decide) h
  by_cases hx : look r = 92
  · obtain ⟨y, rfl⟩ := look_ne hx (by decide)
    rw [if_pos hx, decide_eq_true hx] at hsk
    have HSK := Lib.hid hsk
    clear h hx hsk
    go_enter Tryz.func153, Tryz.ntmps153
    go_wp2_with fail
    refine HSK.out.mono ?_
    rintro e w1 ⟨rfl, h1, g1⟩
    have H1 := Lib.hid h1
    have G1 := Lib.hid g1
    clear h1 g1
    go_wp2_with fail
    refine (escape_any H1.out).mono ?_
    intro e w2 hd
    rw [List.tail_cons] at hd
    cases hd1 : escM y with
    | out => exact absurd hd1 (escM_out y)
    | bad r' =>
      rw [hd1] at hd
      obtain ⟨rfl, hb2⟩ := hd
      have HB2 := Lib.hid hb2
      have B1 := below_of_grown G1.out hbase hlt
      have D1 := Lib.hid hd1
      clear hb2 hd1
      go_wp2_with fail
      refine ⟨rfl, post_is HQ ?_⟩
      rw [oneM, if_pos rfl, D1.out]
      exact ⟨rfl, B1.trans HB2.out⟩
    | ok c r1 =>
      rw [hd1] at hd
      obtain ⟨rfl, h2, g2⟩ := hd
      have H2 := Lib.hid h2
      have G2 := Lib.hid (G1.out.trans g2)
      have D1 := Lib.hid hd1
      clear h2 g2 hd1 G1 H1
      unfold encU8
      go_wp2_with fail
      refine post_is HQ ?_
      rw [oneM, if_pos rfl, D1.out]
      exact ⟨rfl, H2.out, G2.out⟩
  · rw [if_neg hx, decide_eq_false hx] at hsk
    have HSK := Lib.hid hsk
    cases hp : plainB (look r) sg with
    | true =>
      cases r with
      | nil => cases hp
      | cons x y =>
        rw [look_cons] at *
        have HP := Lib.hid hp
        have HX0 := Lib.hid hx
        clear h hx hsk hp
        go_enter Tryz.func153, Tryz.ntmps153
        go_wp2_with fail
        refine HSK.out.mono ?_
        rintro e w1 ⟨rfl, h1, g1⟩
        have H1 := Lib.hid h1
        have G1 := Lib.hid g1
        clear h1 g1
        go_wp2_with fail
        refine (look_any H1.out).mono ?_
        rintro e w2 ⟨rfl, h2, hb2⟩
        obtain ⟨k, HK, HL2, hk, c0, c1, f1, HX⟩ := h2.cells
        have hw : wrap64 ((k : Int) + 1) = (k : Int) + 1 := IntWalk.wrap64_in _ ⟨by omega, by omega⟩
        have G2 := Lib.hid (G1.out.trans ((grown_of_below hb2 (some g)).trans (grown_set w2 g 1 (.int .i64 ((k : Int) + 1)))))
        have H2 := Lib.hid (h2.next ((k : Int) + 1) (by rw [← HK.out]))
        clear h2 hb2 HX HL2 H1 G1
        rw [look_cons]
        go_wp2_with fail
        refine (plain_any sg x _).mono ?_
        rintro e w3 ⟨rfl, rfl⟩
        rw [HP.out]
        go_wp2_with fail
        refine post_is HQ ?_
        rw [oneM, if_neg HX0.out, if_pos HP.out]
        exact ⟨rfl, H2.out, G2.out⟩
    | false =>
      have hE : oneM sg r = .bad r := by
        cases r with
        | nil => rfl
        | cons x y =>
          rw [look_cons] at hx hp
          rw [oneM, if_neg hx, hp]
          simp
      have HP := Lib.hid hp
      have HE := Lib.hid hE
      clear h hx hsk hp hE
      go_enter Tryz.func153, Tryz.ntmps153
      go_wp2_with fail
      refine HSK.out.mono ?_
      rintro e w1 ⟨rfl, h1, g1⟩
      have H1 := Lib.hid h1
      have G1 := Lib.hid g1
      clear h1 g1
      go_wp2_with fail
      refine (look_any H1.out).mono ?_
      rintro e w2 ⟨rfl, h2, hb2⟩
      obtain ⟨k, HK, HL2, hk, c0, c1, f1, HX⟩ := h2.cells
      have B1 := Lib.hid ((below_of_grown G1.out hbase hlt).trans (hb2.mono (by have := H1.out.lt; omega)))
      clear h2 hb2 HX HL2 H1 G1
      go_wp2_with fail
      refine (plain_any sg (look r) _).mono ?_
      rintro e w3 ⟨rfl, rfl⟩
      rw [HP.out]
      go_wp2_with fail
      refine ⟨rfl, post_is HQ ?_⟩
      rw [HE.out]
      exact ⟨by rw [← HK.out], B1.out⟩

end Go.Proofs.YtcgfogdfcdndgaaGreatDoor

/- The reader of patterns: stretch and class; sets as four words. No condition. -/
set_option linter.unusedVariables false
set_option linter.unusedSimpArgs false
namespace Go.Proofs.YtcgfogdfcdndgaaGreatDoor
open Go.RowKit

def encS (s : S4) : Value := .agg (row4 s.f)
theorem row_s4 (f : Nat → BitVec 64) : row4 f = row4 (s4 f).f := row4_congr (s4_f f).symm
def GotS (w : World) (s : S4) (e : Ending) (w' : World) : Prop := e = .returned (encS s) ∧ Below w.heap.size w w'
theorem Got4.gotS {w : World} {f : Nat → BitVec 64} {e : Ending} {w' : World} (h : Got4 w f e w') {s : S4} (hs : s = s4 f) : GotS w s e w' := by
  subst hs
  refine ⟨?_, h.2⟩
  rw [h.1, encS, ← row_s4]
theorem rd_byte (w : World) (v : Value) (b : UInt8) (h : v = bv b) : Rd (w.alloc (.cells #[v] 5)) (some ⟨w.heap.size, 0, none⟩) [b] := fun _ => by
  subst h
  refine ⟨_, rfl, fun j hj => ?_⟩
  simp at hj
  subst hj
  simp [Addr.add, bv]
theorem of_one (b : UInt8) (w : World) : Calls Tryz.prog 152 #[.slice (some ⟨w.heap.size, 0, none⟩) 1 1] (w.alloc (.cells #[.int .u8 (b.toNat : Int)] 5)) (GotS (w.alloc (.cells #[.int .u8 (b.toNat : Int)] 5)) (oneS b.toNat)) :=
  (of_any _ 1 1 [b] rfl (by omega) _ (rd_byte w _ b rfl)).mono fun e w' h => h.gotS rfl
theorem span_is (a b : UInt8) (w : World) : Calls Tryz.prog 80 #[.int .u8 (a.toNat : Int), .int .u8 (b.toNat : Int)] w (GotS w (spanS a.toNat b.toNat)) :=
  (span_any a.toNat b.toNat a.toNat_lt b.toNat_lt w).mono fun e w' h => h.gotS rfl
theorem union_is (s t : S4) (w : World) : Calls Tryz.prog 156 #[encS s, encS t] w (GotS w (orS s t)) :=
  (union_any s.f t.f w).mono fun e w' h => h.gotS rfl
theorem not_is (s : S4) (w : World) : Calls Tryz.prog 102 #[encS s] w (GotS w (notS s)) :=
  (not_any s.f w).mono fun e w' h => h.gotS rfl
/-- A block that holds a set. -/
def HS (w : World) (b : Nat) (s : S4) : Prop := H4 w b s.f
theorem HS.new (w : World) : HS (w.alloc (.cells tab4 51)) w.heap.size nilS := by
  have := H4.new w nilW
  rw [← tab4_row] at this
  exact this.congr (s4_f nilW).symm
theorem HS.kept {w w' : World} {b : Nat} {s : S4} {row : Option Nat} (h : HS w b s) (hg : w.grownBy w' row) (hne : row ≠ some b) : HS w' b s :=
  (hg.block b (H4.lt h) (fun e => hne e.symm)).trans h
theorem HS.below {w w' : World} {b : Nat} {s : S4} (h : HS w b s) (hb : Below w.heap.size w w') : HS w' b s := H4.below h hb
theorem HS.laid {w : World} {b : Nat} {s : S4} (h : HS w b s) (t : S4) : HS (w.setRow b (row4 t.f)) b t := setRow_heap _ _ _ _ _ _ h

theorem RdAt.rowS {n0 g b : Nat} {s r : List UInt8} {l : List RN} {w : World} {z : S4} (h : RdAt n0 g s r l w) (hb : HS w b z) (cs : Array Value) : RdAt n0 g s r l (w.setRow b cs) := by
  refine h.grown (row := some b) ⟨rfl, rfl, rfl, by simp, fun k _ hk => setRow_other _ _ _ _ (fun e => hk (by rw [e]))⟩ ?_ (fun v hv => ?_)
  · intro e
    obtain ⟨v, hv, _⟩ := h.nodes
    have hb' : w.heap[b]? = some (.cells (row4 z.f) 51 (0, 0)) := hb
    rw [Option.some.inj e] at hb'
    rw [hv] at hb'
    simp at hb'
  · obtain ⟨v', hv', ho, _⟩ := h.nodes
    have e : v = v' := by
      rw [hv] at hv'
      simpa using hv'
    subst e
    rcases ho.2 with ⟨rfl, _⟩ | ⟨q, cap, cur, rfl, _, hq, _⟩
    · exact Or.inl rfl
    · right
      intro e
      have e' : q = b := by simpa [Value.ownBlock] using e
      subst e'
      have hb' : w.heap[q]? = some (.cells (row4 z.f) 51 (0, 0)) := hb
      rw [hq] at hb'
      simp at hb'
theorem grown_row' {w w' : World} {g b : Nat} (h : w.grownBy w' (some g)) (hb : w.heap.size ≤ b) (cs : Array Value) : w.grownBy (w'.setRow b cs) (some g) := by
  refine ⟨h.os, h.tape, h.output, by have := h.size; simp; omega, fun k hk hk2 => ?_⟩
  exact (setRow_other _ _ _ _ (by omega)).trans (h.block k hk hk2)

theorem stretch_any {n0 g : Nat} {s r : List UInt8} {l : List RN} {w : World} (h : RdAt n0 g s r l w) : Calls Tryz.prog 155 #[.pointer (some ⟨g, 0, none⟩)] w (Does w n0 g s l encS (strM r)) := by
  have hbase := h.base
  have hlt := h.lt
  have hz := zero4
  generalize hQ : Does w n0 g s l encS (strM r) = Q
  have HQ := Lib.hid hQ
  clear hQ
  have h0 := HS.new w
  have b0 := bl_alloc (Below.refl w.heap.size w) (.cells tab4 51)
  have i0 := h.below b0
  have H0 := Lib.hid h0
  have B0 := Lib.hid b0
  have I0 := Lib.hid i0
  clear h h0 b0 i0
  go_enter Tryz.func155, Tryz.ntmps155
  go_wp2_with fail
  clear hz
  refine (one_any sgC I0.out).mono ?_
  intro e w1 hd
  cases hd1 : oneM sgC r with
  | out => exact absurd hd1 (oneM_out _ r)
  | bad r' =>
    rw [hd1] at hd
    obtain ⟨rfl, hb2⟩ := hd
    have D1 := Lib.hid hd1
    have HB2 := Lib.hid hb2
    clear hb2 hd1
    go_wp2_with fail
    refine ⟨rfl, post_is HQ ?_⟩
    rw [strM, D1.out]
    exact ⟨rfl, (B0.out.mono (by omega)).trans HB2.out⟩
  | ok a r1 =>
    rw [hd1] at hd
    obtain ⟨rfl, h1, g1⟩ := hd
    have D1 := Lib.hid hd1
    have H1 := Lib.hid (H0.out.kept g1 (by simp; omega))
    have G1 := Lib.hid ((grown_of_below B0.out (some g)).trans g1)
    have I1 := Lib.hid h1
    have HSK := Lib.hid (skips_any (l := l) (b := 45) (by decide) h1)
    clear h1 g1 hd1 I0 H0 B0
    unfold encU8
    by_cases hx : look r1 = 45
    · have HX := Lib.hid hx
      obtain ⟨y, rfl⟩ := look_ne hx (by decide)
      have hsk := HSK.out
      rw [if_pos hx, decide_eq_true hx, List.tail_cons] at hsk
      have HSK2 := Lib.hid hsk
      clear hx hsk HSK
      go_wp2_with fail
      refine HSK2.out.mono ?_
      rintro e w2 ⟨rfl, h2, g2⟩
      have H2 := Lib.hid (H1.out.kept g2 (by simp; omega))
      have G2 := Lib.hid (G1.out.trans g2)
      obtain ⟨k, HK, HL2, hk, c0, c1, f1, HX2⟩ := h2.cells
      have I2 := Lib.hid h2
      clear h2 g2 H1 G1 HSK2 HL2 HX2
      go_wp2_with fail
      refine (one_any sgC I2.out).mono ?_
      intro e w3 hd
      cases hd2 : oneM sgC y with
      | out => exact absurd hd2 (oneM_out _ y)
      | bad r' =>
        rw [hd2] at hd
        obtain ⟨rfl, hb2⟩ := hd
        have D2 := Lib.hid hd2
        have HB2 := Lib.hid hb2
        clear hb2 hd2
        go_wp2_with fail
        refine ⟨rfl, post_is HQ ?_⟩
        rw [strM, D1.out]
        simp only []
        rw [if_pos HX.out, List.tail_cons, D2.out]
        exact ⟨rfl, (below_of_grown G2.out hbase hlt).trans HB2.out⟩
      | ok b r2 =>
        rw [hd2] at hd
        obtain ⟨rfl, h3, g3⟩ := hd
        have D2 := Lib.hid hd2
        have H3 := Lib.hid (H2.out.kept g3 (by simp; omega))
        have G3 := Lib.hid (G2.out.trans g3)
        have I3 := Lib.hid h3
        clear h3 g3 hd2 H2 G2 I2
        unfold encU8
        by_cases hba : b < a
        · have hlt3 : decide ((b.toNat : Int) < (a.toNat : Int)) = true := by
            have := UInt8.lt_iff_toNat_lt.1 hba
            simp
            omega
          have HBA := Lib.hid hba
          clear hba
          go_wp2_with fail
          refine ⟨rfl, post_is HQ ?_⟩
          rw [strM, D1.out]
          simp only []
          rw [if_pos HX.out, List.tail_cons, D2.out]
          simp only []
          rw [if_pos HBA.out]
          exact ⟨by rw [← HK.out], below_of_grown G3.out hbase hlt⟩
        · have hlt3 : decide ((b.toNat : Int) < (a.toNat : Int)) = false := by
            have h5 : ¬ b.toNat < a.toNat := fun e => hba (UInt8.lt_iff_toNat_lt.2 e)
            simp
            omega
          have HBA := Lib.hid hba
          clear hba
          go_wp2_with fail
          refine (span_is a b _).mono ?_
          rintro e w4 ⟨rfl, hb4⟩
          have H4 := Lib.hid (H3.out.below hb4)
          have G4 := Lib.hid (G3.out.trans (grown_of_below hb4 (some g)))
          have I4 := Lib.hid (I3.out.below hb4)
          have L4 : w.heap.size ≤ w4.heap.size := G4.out.size
          clear H3 G3 I3 hb4
          unfold encS
          go_wp2_with (refine wpList_store_row rfl 51 _ _ rfl w.heap.size _ rfl rfl 51 _ H4.out (by rw [size4, row4_size]) (by rw [row4_size, row4_size]) (row4_one _) ?_)
          refine bodyPost_ret (v := encS (spanS a.toNat b.toNat)) (results_cell_row rfl _ _ w.heap.size 51 _ (0, 0) _ rfl (setRow_heap _ _ _ _ _ _ H4.out) Tryz.underlying51 rfl (by rw [size4, row4_size])) rfl (post_is HQ ?_)
          rw [strM, D1.out]
          simp only []
          rw [if_pos HX.out, List.tail_cons, D2.out]
          simp only []
          rw [if_neg HBA.out]
          exact ⟨rfl, I4.out.rowS H4.out _, grown_row' G4.out (by omega) _⟩
    · have HX := Lib.hid hx
      have hsk := HSK.out
      rw [if_neg hx, decide_eq_false hx] at hsk
      have HSK2 := Lib.hid hsk
      clear hx hsk HSK
      go_wp2_with fail
      refine HSK2.out.mono ?_
      rintro e w2 ⟨rfl, h2, g2⟩
      have H2 := Lib.hid (H1.out.kept g2 (by simp; omega))
      have G2 := Lib.hid (G1.out.trans g2)
      have I2 := Lib.hid h2
      clear h2 g2 H1 G1 HSK2
      go_wp2_with fail
      refine (of_one a _).mono ?_
      rintro e w4 ⟨rfl, hb4⟩
      have B4 := bl_trans (bl_alloc (Below.refl w2.heap.size w2) (.cells #[.int .u8 (a.toNat : Int)] 5)) hb4
      have H4 := Lib.hid (H2.out.below B4)
      have G4 := Lib.hid (G2.out.trans (grown_of_below B4 (some g)))
      have I4 := Lib.hid (I2.out.below B4)
      have L4 : w.heap.size ≤ w4.heap.size := G4.out.size
      clear H2 G2 I2 hb4 B4
      unfold encS
      go_wp2_with (refine wpList_store_row rfl 51 _ _ rfl w.heap.size _ rfl rfl 51 _ H4.out (by rw [size4, row4_size]) (by rw [row4_size, row4_size]) (row4_one _) ?_)
      refine bodyPost_ret (v := encS (oneS a.toNat)) (results_cell_row rfl _ _ w.heap.size 51 _ (0, 0) _ rfl (setRow_heap _ _ _ _ _ _ H4.out) Tryz.underlying51 rfl (by rw [size4, row4_size])) rfl (post_is HQ ?_)
      rw [strM, D1.out]
      simp only []
      rw [if_neg HX.out]
      exact ⟨rfl, I4.out.rowS H4.out _, grown_row' G4.out (by omega) _⟩

end Go.Proofs.YtcgfogdfcdndgaaGreatDoor
