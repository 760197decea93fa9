/- Nets of trees: a net of patterns leads from its beginning to a pattern's end by just those texts that the pattern takes. No program in it. -/
import Derived.Test.YtcgfogdfcdndgaaGreatDoorNfXP
import Derived.Test.YtcgfogdfcdndgaaGreatDoorSetMP
set_option linter.unusedVariables false
set_option linter.unusedSimpArgs false
namespace Go.Proofs.YtcgfogdfcdndgaaGreatDoor

/-- From a state by a text to a state. -/
inductive Pth (E : List Ed) : Nat → List UInt8 → Nat → Prop where
  | nil (x : Nat) : Pth E x [] x
  | free {e : Ed} {x y : Nat} {w : List UInt8} : e ∈ E → e.fr = (x : Int) → e.free = true → Pth E e.tn w y → Pth E x w y
  | byte {e : Ed} {x y : Nat} {c : UInt8} {w : List UInt8} : e ∈ E → e.fr = (x : Int) → byE c.toNat e = true → Pth E e.tn w y → Pth E x (c :: w) y
theorem Pth.more {E F : List Ed} {x y : Nat} {w : List UInt8} (h : Pth E x w y) (hs : ∀ e ∈ E, e ∈ F) : Pth F x w y := by
  induction h with
  | nil x => exact .nil x
  | free he hf hr _ ih => exact .free (hs _ he) hf hr ih
  | byte he hf hr _ ih => exact .byte (hs _ he) hf hr ih
theorem Pth.trans {E : List Ed} {x y z : Nat} {u v : List UInt8} (h : Pth E x u y) (h2 : Pth E y v z) : Pth E x (u ++ v) z := by
  induction h with
  | nil x => exact h2
  | free he hf hr _ ih => exact .free he hf hr (ih h2)
  | byte he hf hr _ ih => exact .byte he hf hr (ih h2)
def inQ (S k : Nat) (t : Rx) : Nat := S + 2 * (k + t.size - 1)
def fE (a b : Nat) : Ed := freeE (a : Int) (b : Int)
theorem Pth.f {E : List Ed} {a b y : Nat} {w : List UInt8} (h : fE a b ∈ E) (h2 : Pth E b w y) : Pth E a w y := .free h rfl rfl h2
/-! What is left to be read at a state. -/
def Rst (S : Nat) : Nat → Rx → Nat → List UInt8 → Prop
  | k, .nil, q, u => (q = inQ S k .nil ∧ Mt .nil u) ∨ (q = inQ S k .nil + 1 ∧ u = [])
  | k, .set s, q, u => (q = inQ S k (.set s) ∧ Mt (.set s) u) ∨ (q = inQ S k (.set s) + 1 ∧ u = [])
  | k, .seq a b, q, u => (q = inQ S k (.seq a b) ∧ Mt (.seq a b) u) ∨ (q = inQ S k (.seq a b) + 1 ∧ u = []) ∨ (∃ u1 u2, u = u1 ++ u2 ∧ Rst S k a q u1 ∧ Mt b u2) ∨ Rst S (k + a.size) b q u
  | k, .alt a b, q, u => (q = inQ S k (.alt a b) ∧ Mt (.alt a b) u) ∨ (q = inQ S k (.alt a b) + 1 ∧ u = []) ∨ Rst S k a q u ∨ Rst S (k + a.size) b q u
  | k, .star a, q, u => (q = inQ S k (.star a) ∧ Mt (.star a) u) ∨ (q = inQ S k (.star a) + 1 ∧ u = []) ∨ ∃ u1 u2, u = u1 ++ u2 ∧ Rst S k a q u1 ∧ Mt (.star a) u2
  | k, .plus a, q, u => (q = inQ S k (.plus a) ∧ Mt (.plus a) u) ∨ (q = inQ S k (.plus a) + 1 ∧ u = []) ∨ ∃ u1 u2, u = u1 ++ u2 ∧ Rst S k a q u1 ∧ Mt (.star a) u2
def NR : Nat → List Rx → Nat → Nat → List UInt8 → Prop
  | _, [], _, _, _ => False
  | S, t :: ts, 0, q, u => (q = 0 ∧ Mt t u) ∨ Rst S 0 t q u
  | S, t :: ts, r + 1, q, u => NR (S + 2 * t.size) ts r q u
end Go.Proofs.YtcgfogdfcdndgaaGreatDoor

/- Nets of trees may be; the rule that is told is the first tree that takes the text; what steps make is what a run makes. No program in it. -/
set_option linter.unusedVariables false
set_option linter.unusedSimpArgs false
namespace Go.Proofs.YtcgfogdfcdndgaaGreatDoor

/-! Step by step. -/
def nowL (S : Nat) (E : List Ed) (ts : List UInt8) : List Nat := ts.foldl (fun l c => closeL S E (stepL S E c.toNat l)) (closeL S E [0])
theorem now_next (S : Nat) (E : List Ed) (ts : List UInt8) (k : Nat) (hk : k < ts.length) : nowL S E (ts.take (k + 1)) = closeL S E (stepL S E ts[k].toNat (nowL S E (ts.take k))) := by
  unfold nowL
  rw [List.take_succ_eq_append_getElem hk, List.foldl_append]
  rfl
theorem step_in (S : Nat) (E : List Ed) (c : Nat) (l : List Nat) : InN S (stepL S E c l) := rise_in _ _
theorem beh_congr {E : List Ed} {c : Nat} {a b : List Nat} (h : ∀ x, x ∈ a ↔ x ∈ b) (x : Nat) : x ∈ behE E c a ↔ x ∈ behE E c b := by
  rw [mem_beh, mem_beh]
  constructor <;> rintro ⟨s, hs, h2⟩
  · exact ⟨s, (h s).1 hs, h2⟩
  · exact ⟨s, (h s).2 hs, h2⟩
theorem for_congr {S : Nat} {E : List Ed} (hE : EdN S E) (hS : S ≤ 2048) {a b : List Nat} (ha : InN S a) (hb : InN S b) (h : ∀ x, x ∈ a ↔ x ∈ b) (x : Nat) : x ∈ forE E a ↔ x ∈ forE E b := by
  rw [(for_spec hE hS ha).2.2, (for_spec hE hS hb).2.2]
  exact ⟨Rch.mono fun y hy => .base ((h y).1 hy), Rch.mono fun y hy => .base ((h y).2 hy)⟩
theorem now_gone {S : Nat} {E : List Ed} (hE : EdN S E) (h1 : 1 ≤ S) (hS : S ≤ 2048) : ∀ (ts : List UInt8) (k : Nat) (x : Nat), k ≤ ts.length → (x ∈ nowL S E (ts.take k) ↔ x ∈ goneE E (forE E [0]) (ts.take k))
  | ts, 0, x, _ => by
    have h0 : InN S [0] := fun x hx => by rw [List.mem_singleton] at hx; omega
    show x ∈ closeL S E [0] ↔ x ∈ forE E [0]
    rw [closeL, mem_rise]
    exact ⟨fun h => h.2, fun h => ⟨(for_spec hE hS h0).2.1 x h, h⟩⟩
  | ts, k + 1, x, hk => by
    have hk' : k < ts.length := hk
    rw [now_next S E ts k hk', gone_next E _ ts k hk', closeL, mem_rise]
    have hst := step_in S E ts[k].toNat (nowL S E (ts.take k))
    have hbe := in_beh hE ts[k].toNat (goneE E (forE E [0]) (ts.take k))
    have key := for_congr hE hS hst hbe (fun y => by
      rw [stepL, mem_rise, beh_congr (fun z => now_gone hE h1 hS ts k z (by omega)) y]
      exact ⟨fun h => h.2, fun h => ⟨hbe y h, h⟩⟩)
    rw [key x]
    exact ⟨fun h => h.2, fun h => ⟨(for_spec hE hS hbe).2.1 x h, h⟩⟩
theorem now_all {S : Nat} {E : List Ed} (hE : EdN S E) (h1 : 1 ≤ S) (hS : S ≤ 2048) (ts : List UInt8) (x : Nat) : x ∈ nowL S E ts ↔ x ∈ goneE E (forE E [0]) ts := by
  have := now_gone hE h1 hS ts ts.length x (Nat.le_refl _)
  rwa [List.take_of_length_le (Nat.le_refl _)] at this
theorem idx_congr {a b : List Nat} (h : ∀ x, x ∈ a ↔ x ∈ b) : ∀ (X : List Int) (k : Nat), idxE a X k = idxE b X k
  | [], _ => rfl
  | x :: X, k => by
    have e : isIn a x = isIn b x := by
      unfold isIn zl
      rw [Bool.eq_iff_iff, List.contains_iff_mem, List.contains_iff_mem, List.mem_map, List.mem_map]
      constructor <;> rintro ⟨y, hy, h2⟩
      · exact ⟨y, (h y).1 hy, h2⟩
      · exact ⟨y, (h y).2 hy, h2⟩
    rw [idxE, idxE, e, idx_congr h X (k + 1)]
end Go.Proofs.YtcgfogdfcdndgaaGreatDoor
