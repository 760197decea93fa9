/- Padded bytes, as a call finds them. No condition but that the bytes can be read, and are 5000 at most. -/
import Derived.Test.YthpcmceomamadaaShaX
set_option linter.unusedVariables false
set_option linter.unusedSimpArgs false
namespace Go.Proofs.Ythpcmceomamadaa
open Go.RowKit

/-- Block g holds the padded bytes. -/
def PadAt (w : World) (g : Nat) (l : List UInt8) : Prop := ∃ cur, w.heap[g]? = some (.cells cur 5 (0, 0)) ∧ ∀ j, j < padN l.length → cur[j]? = some (bv (padI l 8 j))
theorem PadAt.lt {w : World} {g : Nat} {l : List UInt8} (h : PadAt w g l) : g < w.heap.size := by
  obtain ⟨cur, h, _⟩ := h
  exact (Array.getElem?_eq_some_iff.1 h).1
theorem PadAt.below {w w' : World} {g : Nat} {l : List UInt8} (h : PadAt w g l) (hb : Below w.heap.size w w') : PadAt w' g l := by
  have hlt := h.lt
  obtain ⟨cur, h, hc⟩ := h
  exact ⟨cur, (hb.block g hlt).trans h, hc⟩
theorem PadAt.cell {w : World} {g : Nat} {l : List UInt8} (h : PadAt w g l) {j : Nat} (hj : j < padN l.length) : w.cell? ⟨g, j, none⟩ = some (.int .u8 ((padI l 8 j).toNat : Int)) := by
  obtain ⟨cur, h, hc⟩ := h
  rw [cell_of_row w g j _ _ _ h, hc j hj]
  rfl
theorem padE_get (l : List UInt8) (j : Nat) (hj : j < (padE l).length) : (padE l)[j] = padI l 8 j := by
  have hN : j < padN l.length := by rw [padE_len] at hj; exact hj
  have h : (padE l)[j]? = some (padI l 8 j) := by
    unfold padE
    simp [hN]
  rw [List.getElem?_eq_getElem hj] at h
  exact Option.some.inj h
theorem PadAt.rd {w : World} {g : Nat} {l : List UInt8} (h : PadAt w g l) : Rd w (some ⟨g, 0, none⟩) (padE l) := by
  obtain ⟨cur, h, hc⟩ := h
  refine rd_row h fun j hj => ?_
  rw [padE_get, hc j (by rw [padE_len] at hj; exact hj)]
def GotPad (w : World) (l : List UInt8) (e : Ending) (w' : World) : Prop := ∃ g c, e = .returned (.slice (some ⟨g, 0, none⟩) (padN l.length) c) ∧ padN l.length ≤ c ∧ w.heap.size ≤ g ∧ PadAt w' g l ∧ Below w.heap.size w w'
theorem pad_got (A : Option Addr) (n c : Nat) (l : List UInt8) (w : World) (hl : l.length = n) (hr : Rd w A l) (hn : n ≤ 5000) :
    Calls Try.prog 13 #[.slice A n c] w (GotPad w l) := by
  refine (pad_any A n c l w hl hr hn).mono ?_
  rintro e w1 ⟨v, rfl, ho, hb⟩
  have := padN_room l.length
  obtain ⟨g, cp, cur, rfl, h1, h2, h3, h4⟩ := own_block ho (by rw [padE_len]; omega)
  rw [padE_len] at h3
  refine ⟨g, cp, by rw [padE_len], h3, h1, ⟨cur, h2, fun j hj => ?_⟩, hb⟩
  rw [h4 j (by rw [padE_len]; exact hj), padE_get]
theorem take_pad (l : List UInt8) : (padE l).take l.length = l := by
  have h1 := padN_room l.length
  apply List.ext_getElem
  · rw [List.length_take, padE_len]; omega
  · intro i h2 h3
    rw [List.getElem_take, padE_get]
    unfold padI
    rw [if_pos h3, List.getD_eq_getElem?_getD, List.getElem?_eq_getElem h3]
    rfl
theorem padI_mark (l : List UInt8) : padI l 8 l.length = 128 := by
  unfold padI
  rw [if_neg (by omega), if_pos rfl]
theorem padI_null (l : List UInt8) (j : Nat) (h1 : l.length < j) (h2 : j + 8 < padN l.length) : padI l 8 j = 0 := by
  unfold padI
  rw [if_neg (by omega), if_neg (by omega), if_neg (by omega)]
theorem padI_count (l : List UInt8) (k : Nat) (hk : k < 8) : (padI l 8 (padN l.length - 8 + k)).toNat = 8 * l.length / 256 ^ (7 - k) % 256 := by
  have h1 := padN_room l.length
  unfold padI
  rw [if_neg (by omega), if_neg (by omega), if_pos (by omega), UInt8.toNat_ofNat']
  have e : padN l.length - 1 - (padN l.length - 8 + k) = 7 - k := by omega
  rw [e, Nat.pow_mul]
theorem count_more (m k : Nat) (hk : k < 8) : m / 256 ^ (8 - k) * 256 + m / 256 ^ (7 - k) % 256 = m / 256 ^ (7 - k) := by
  have e : 8 - k = 7 - k + 1 := by omega
  rw [e, Nat.pow_succ, ← Nat.div_div_eq_div_mul]
  omega

end Go.Proofs.Ythpcmceomamadaa
