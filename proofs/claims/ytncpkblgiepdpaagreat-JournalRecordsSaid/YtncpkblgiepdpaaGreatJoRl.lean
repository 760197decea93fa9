/- Record and Records, the program's and the document's, at any arguments; rows that are written over. No condition but that the bytes can be read. -/
import Derived.Test.YtncpkblgiepdpaaGreatJoRk
set_option linter.unusedVariables false
set_option linter.unusedSimpArgs false
namespace Go.Proofs.YtncpkblgiepdpaaGreat
open Go.RowKit

theorem recA_none {n : Int} {b : List UInt8} (h : n < 1 ∨ 9007199254740991 < n) : recA n b = ([], 2) := by unfold recA; rw [if_pos h]
theorem recA_long {n : Int} {b : List UInt8} (h : ¬ (n < 1 ∨ 9007199254740991 < n)) (h2 : 262144 < b.length) : recA n b = ([], 5) := by unfold recA; rw [if_neg h, if_pos h2]
theorem recA_rec {n : Int} {b : List UInt8} (h : ¬ (n < 1 ∨ 9007199254740991 < n)) (h2 : ¬ 262144 < b.length) : recA n b = (recE n.toNat b, 0) := by unfold recA; rw [if_neg h, if_neg h2]
theorem recordAll (n : Int) (A : Option Addr) (m c : Nat) (b : List UInt8) (w : World) (h1 : -9223372036854775808 ≤ n) (h2 : n ≤ 9223372036854775807) (hl : b.length = m) (hr : Rd w A b) :
    Calls Tryz.prog 7 #[.int .i64 n, .slice A m c] w (GotBytesE w (recA n b).1 (recA n b).2) := by
  by_cases hn : n < 1 ∨ 9007199254740991 < n
  · rw [recA_none hn]
    refine (record_none n A m c w h1 h2 hn).mono ?_
    rintro e w' ⟨rfl, rfl⟩
    exact ⟨_, rfl, Own.nil _ _, Below.refl _ _⟩
  · obtain ⟨k, rfl⟩ : ∃ k : Nat, n = (k : Int) := ⟨n.toNat, by omega⟩
    by_cases hm : 262144 < m
    · rw [recA_long hn (by omega)]
      refine (record_long k A m c w (by omega) (by omega) hm).mono ?_
      rintro e w' ⟨rfl, rfl⟩
      exact ⟨_, rfl, Own.nil _ _, Below.refl _ _⟩
    · rw [recA_rec hn (by omega)]
      exact record_any k A m c b w (by omega) (by omega) hl hr (by omega)
theorem refRecordAll (n : Int) (A : Option Addr) (m c : Nat) (b : List UInt8) (w : World) (h1 : -9223372036854775808 ≤ n) (h2 : n ≤ 9223372036854775807) (hl : b.length = m) (hr : Rd w A b) :
    Calls Tryz.prog 8 #[.int .i64 n, .slice A m c] w (GotBytesE w (recA n b).1 (recA n b).2) := by
  by_cases hn : n < 1 ∨ 9007199254740991 < n
  · rw [recA_none hn]
    refine (refRecord_none n A m c w h1 h2 hn).mono ?_
    rintro e w' ⟨rfl, rfl⟩
    exact ⟨_, rfl, Own.nil _ _, Below.refl _ _⟩
  · obtain ⟨k, rfl⟩ : ∃ k : Nat, n = (k : Int) := ⟨n.toNat, by omega⟩
    by_cases hm : 262144 < m
    · rw [recA_long hn (by omega)]
      refine (refRecord_long k A m c w (by omega) (by omega) hm).mono ?_
      rintro e w' ⟨rfl, rfl⟩
      exact ⟨_, rfl, Own.nil _ _, Below.refl _ _⟩
    · rw [recA_rec hn (by omega)]
      exact refRecord_any k A m c b w (by omega) (by omega) hl hr (by omega)

/-- Bytes of one's own, whatever they are now. -/
def OwnLen (w : World) (base : Nat) (u : Value) (n : Nat) : Prop := ∃ l : List UInt8, l.length = n ∧ Own w base u l
theorem OwnLen.set {w : World} {base : Nat} {u : Value} {n : Nat} (h : OwnLen w base u n) (g k : Nat) (b : UInt8) (hg : IsU8 w g) : OwnLen (w.setCell ⟨g, k, none⟩ (bv b)) base u n := by
  obtain ⟨l, hl, ho⟩ := h
  by_cases he : u.ownBlock = some g
  · obtain ⟨A, n', c, rfl, _⟩ := ho.form
    obtain rfl := ho.len
    by_cases hk : k < l.length
    · obtain ⟨hl2, g2, e2, _⟩ := ho.head (by omega)
      subst e2
      have e3 : g2 = g := by simpa [Value.ownBlock] using he
      subst e3
      exact ⟨l.set k b, by simpa using hl, (ho.stored k b _ rfl).1⟩
    · rcases ho.2 with ⟨h1, h2⟩ | ⟨g2, cap, cur, hv, hb, hgc, hnc, hcm, hcs, ht⟩
      · exact ⟨l, hl, by rw [h1]; exact ⟨ho.1, .inl ⟨rfl, h2⟩⟩⟩
      · refine ⟨l, hl, ho.1, .inr ⟨g2, cap, cur.setIfInBounds k (bv b), hv, hb, ?_, hnc, hcm, by simpa using hcs, ?_⟩⟩
        · have e3 : g2 = g := by rw [hv] at he; simpa [Value.ownBlock] using he
          subst e3
          exact heap_setCell_same w g2 k _ _ _ hgc
        · rw [← ht]
          apply List.ext_getElem?
          intro j
          by_cases hj : j < l.length * 1
          · rw [List.getElem?_take_of_lt hj, List.getElem?_take_of_lt hj]
            rw [Array.getElem?_toList, Array.getElem?_toList, Array.getElem?_setIfInBounds_ne (by omega)]
          · rw [List.getElem?_eq_none (by rw [List.length_take]; omega), List.getElem?_eq_none (by rw [List.length_take]; omega)]
  · refine ⟨l, hl, ho.kept (row := some g) ?_ (.inr he)⟩
    exact ⟨rfl, rfl, rfl, ((Below.refl 0 w).setCell (p := ⟨g, k, none⟩) (Nat.zero_le _) (bv b)).size, fun j _ hj => Below.heap_setCell _ _ _ j (fun e => hj (by rw [e]))⟩

/-- Rows of one's own, of bytes of one's own, whatever they are now; so many rows, each so long. -/
def RowsL (w : World) (base : Nat) (v : Value) (ns : List Nat) : Prop :=
  ∃ vals, w.ownsRow base 22 1 v ns.length vals ∧ ∀ q (h : q < ns.length), ∃ u, vals[q]? = some u ∧ OwnLen w base u ns[q]
theorem RowsL.set {w : World} {base : Nat} {v : Value} {ns : List Nat} (h : RowsL w base v ns) (g k : Nat) (b : UInt8) (hg : IsU8 w g) : RowsL (w.setCell ⟨g, k, none⟩ (bv b)) base v ns := by
  obtain ⟨vals, ho, hv⟩ := h
  refine ⟨vals, World.ownsRow.kept (row := some g) ho ⟨rfl, rfl, rfl, ((Below.refl 0 w).setCell (p := ⟨g, k, none⟩) (Nat.zero_le _) (bv b)).size, fun j _ hj => Below.heap_setCell _ _ _ j (fun e => hj (by rw [e]))⟩ (.inr fun e => ?_), fun q hq => ?_⟩
  · obtain ⟨cs, fr, hc⟩ := rowKind ho g e
    obtain ⟨cs2, fr2, hc2⟩ := hg
    rw [hc] at hc2
    simp at hc2
  · obtain ⟨u, hu, hou⟩ := hv q hq
    exact ⟨u, hu, hou.set g k b hg⟩
theorem RowsL.below {w w2 : World} {base : Nat} {v : Value} {ns : List Nat} (h : RowsL w base v ns) (hb : Below w.heap.size w w2) : RowsL w2 base v ns := by
  obtain ⟨vals, ho, hv⟩ := h
  exact ⟨vals, row_below ho hb, fun q hq => by
    obtain ⟨u, hu, l, hl, hou⟩ := hv q hq
    exact ⟨u, hu, l, hl, hou.below hb⟩⟩
theorem RowsL.drewN {w : World} {base : Nat} {v : Value} {ns : List Nat} (h : RowsL w base v ns) (k : Nat) : RowsL (w.drewN k) base v ns := h
/-- A row's cell, and its bytes. -/
theorem RowsL.at {w : World} {base : Nat} {A : Option Addr} {n c : Nat} {ns : List Nat} (h : RowsL w base (.slice A n c) ns) {q : Nat} (hq : q < ns.length) :
    ∃ g B cb l, A = some ⟨g, 0, none⟩ ∧ ns.length = n ∧ w.cell? ⟨g, q, none⟩ = some (.slice B ns[q] cb) ∧ Own w base (.slice B ns[q] cb) l ∧ l.length = ns[q] := by
  obtain ⟨vals, ho, hv⟩ := h
  obtain ⟨u, hu, l, hl, hou⟩ := hv q hq
  rcases ho.2 with ⟨h1, h2⟩ | ⟨g, cap, cur, he, hb, hg, hnc, hcm, hcs, ht⟩
  · omega
  · cases he
    obtain ⟨B, cb, rfl, _⟩ := hou.shape
    refine ⟨g, B, cb, l, rfl, rfl, ?_, by rw [← hl]; exact hou, hl⟩
    have hc := World.ownsRow.cells (h := ⟨ho.1, ho.2⟩) (g := g) rfl q _ hu
    have e : (⟨g, 0, none⟩ : Addr).add q = ⟨g, q, none⟩ := by unfold Addr.add; split <;> simp_all
    rw [e] at hc
    rw [hc, hl]

end Go.Proofs.YtncpkblgiepdpaaGreat
