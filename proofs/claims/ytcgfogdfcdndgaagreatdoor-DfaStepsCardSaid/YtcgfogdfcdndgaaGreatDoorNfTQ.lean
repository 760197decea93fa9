/- What is asked of a net: Close and Step. -/
import Derived.Test.YtcgfogdfcdndgaaGreatDoorNfSQ
set_option linter.unusedVariables false
set_option linter.unusedSimpArgs false
namespace Go.Proofs.YtcgfogdfcdndgaaGreatDoor
open Go.RowKit
attribute [local go_sem] Oper.semAt_some

def closeL (S : Nat) (E : List Ed) (xs : List Nat) : List Nat := riseE S (forE E xs)
def stepL (S : Nat) (E : List Ed) (c : Nat) (xs : List Nat) : List Nat := riseE S (behE E c xs)
theorem rise_congr {S : Nat} {a b : List Nat} (h : ∀ x, x ∈ a ↔ x ∈ b) : riseE S a = riseE S b := by
  unfold riseE
  congr 1
  funext s
  exact decide_eq_decide.2 (h s)
theorem check_ok {S : Int} {E : List Ed} {X : List Int} (h : checkN S E X = 0) : ∃ n : Nat, S = (n : Int) ∧ 1 ≤ n ∧ n ≤ 2048 ∧ E.length ≤ 8192 ∧ EdN n E ∧ X.length ≤ 64 ∧ X.all (okSt (n : Int)) = true := by
  unfold checkN at h
  split at h
  · cases h
  · split at h
    · cases h
    · rename_i h1 h2
      simp only [not_or, Bool.not_eq_false] at h1 h2
      refine ⟨S.toNat, by omega, by omega, by omega, by omega, ?_, by omega, ?_⟩
      · rw [show S = ((S.toNat : Nat) : Int) by omega] at h2
        exact edN_of h2.2.2
      · rw [show ((S.toNat : Nat) : Int) = S by omega]
        exact h2.2.1

theorem OwnI.rd {w : World} {base : Nat} {A : Option Addr} {n c : Nat} {l : List Nat} (h : OwnI w base (.slice A n c) l) : RdZ w A l := by
  obtain ⟨A', n', c', e, _, _, _, hr⟩ := h.form
  injection e with e1 e2 e3
  subst e1
  exact hr
end Go.Proofs.YtcgfogdfcdndgaaGreatDoor

/- Close and Step, as they are called. -/
set_option linter.unusedVariables false
set_option linter.unusedSimpArgs false
namespace Go.Proofs.YtcgfogdfcdndgaaGreatDoor
open Go.RowKit
attribute [local go_sem] Oper.semAt_some

theorem load_net {b : Nat} {S : Int} {Ae Ax : Option Addr} {ne ce nx cx : Nat} (w : World) (hw : w.heap[b]? = some (.cells #[.int .i64 S, .slice Ae ne ce, .slice Ax nx cx] 25 (0, 0))) : ∀ t u, [Value.int .i64 S, .slice Ae ne ce, .slice Ax nx cx][t]? = some u → w.cell? ((⟨b, 0, none⟩ : Addr).add t) = some u := fun t u hu => by
  rw [addr_mk, Nat.zero_add, cell_of_row w b t _ _ _ hw]
  simpa using hu
end Go.Proofs.YtcgfogdfcdndgaaGreatDoor

/- Which rule is told: the first one whose end is among states. -/
set_option linter.unusedVariables false
set_option linter.unusedSimpArgs false
namespace Go.Proofs.YtcgfogdfcdndgaaGreatDoor
open Go.RowKit Go.Shelf
attribute [local go_sem] Oper.semAt_some

def isIn (l : List Nat) (x : Int) : Bool := (zl l).contains x
theorem contains_own (base : Nat) (l : List Nat) (v : Value) (hlen : l.length ≤ 100000) (x : Int) (W : World) (ho : OwnI W base v l) :
    Calls Tryz.prog 49 #[v, .int .i64 x] W (fun e W' => e = .returned (.bool (isIn l x)) ∧ W' = W) := by
  rcases ho.2 with ⟨rfl, h0⟩ | ⟨g, cap, cur, rfl, hbase, hgb, h1, h2, h3, h4⟩
  · have hl0 : l = [] := List.length_eq_zero_iff.1 h0
    subst hl0
    exact Tryz.slices_Contains_int_empty none 0 x W
  · have hlz : (zl l).length = l.length := by unfold zl; rw [List.length_map]
    have h := Tryz.slices_Contains_int g 0 l.length cap (zl l) x W (by rw [hlz]; exact Nat.le_refl _) (by omega) (fun j hj => by
      rw [hlz] at hj
      have hc := ho.rd j hj
      obtain ⟨ad, e, hc⟩ := hc
      obtain rfl := Option.some.inj e
      rw [addr_mk] at hc
      rw [hc]
      unfold zl
      simp [List.getD, hj])
    rw [show (zl l).take l.length = zl l from List.take_of_length_le (by rw [hlz]; exact Nat.le_refl _)] at h
    exact h
/-- The first rule whose end is among states. -/
def idxE (l : List Nat) : List Int → Nat → Int
  | [], _ => -1
  | x :: X, k => if isIn l x = true then (k : Int) else idxE l X (k + 1)
theorem idx_at (l : List Nat) : ∀ (X : List Int) (k j : Nat) (hj : j < X.length), (∀ i (h : i < X.length), i < j → isIn l X[i] = false) → isIn l X[j] = true → idxE l X k = ((k + j : Nat) : Int)
  | x :: X, k, 0, _, _, h2 => by rw [idxE, if_pos (show isIn l x = true from h2)]; simp
  | x :: X, k, j + 1, hj, h1, h2 => by
    rw [idxE, if_neg (by rw [show isIn l x = false from h1 0 (by simp) (by omega)]; simp)]
    rw [idx_at l X (k + 1) j (by simpa using hj) (fun i h hi => h1 (i + 1) (by simpa using h) (by omega)) h2]
    congr 1
    omega
theorem idx_none (l : List Nat) : ∀ (X : List Int) (k : Nat), (∀ i (h : i < X.length), isIn l X[i] = false) → idxE l X k = -1
  | [], _, _ => rfl
  | x :: X, k, h1 => by
    rw [idxE, if_neg (by rw [show isIn l x = false from h1 0 (by simp)]; simp)]
    exact idx_none l X (k + 1) fun i h => h1 (i + 1) (by simpa using h)
def GotIn (W : World) (z : Int) (e : Ending) (W' : World) : Prop := e = .returned (.int .i64 z) ∧ Below W.heap.size W W'
end Go.Proofs.YtcgfogdfcdndgaaGreatDoor

/- Run, as it is called. -/
set_option linter.unusedVariables false
set_option linter.unusedSimpArgs false
namespace Go.Proofs.YtcgfogdfcdndgaaGreatDoor
open Go.RowKit
attribute [local go_sem] Oper.semAt_some

def GotRn (W : World) (r : Int × Nat) (e : Ending) (W' : World) : Prop := e = .returned (.tuple #[.int .i64 r.1, .int .i64 (r.2 : Int)]) ∧ Below W.heap.size W W'
section
variable {W0 W W' : World} {n1 g gm gb gp S : Nat} {Ae : Option Addr} {ne ce : Nat} {E : List Ed} {Xv : Value} {fb fp : Nat → Nat} {rd : Nat} {l : List Nat} {v : Value}
end
end Go.Proofs.YtcgfogdfcdndgaaGreatDoor
