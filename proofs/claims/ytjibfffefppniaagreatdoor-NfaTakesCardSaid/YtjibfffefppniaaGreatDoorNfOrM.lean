/- The law on two lists of patterns: the walk. -/
import Derived.Test.YtjibfffefppniaaGreatDoorNfApM
set_option linter.unusedVariables false
set_option linter.unusedSimpArgs false
namespace Go.Proofs.YtjibfffefppniaaGreatDoor
open Go.RowKit
attribute [local go_sem] Oper.semAt_some

/-- The net of patterns that may be. -/
def GotNet (W : World) (Ls : List (List RN)) (e : Ending) (W' : World) : Prop :=
  ∃ A n c A2 n2 c2, e = .returned (.tuple #[.agg #[.int .i64 ((netS Ls : Nat) : Int), .slice A n c, .slice A2 n2 c2], .int .i64 0]) ∧ RdE W' A (netE 1 Ls) ∧ RdW W' A2 (zl (netX 1 Ls)) ∧ Hid ((netE 1 Ls).length = n) ∧ Hid ((zl (netX 1 Ls)).length = n2) ∧ n ≤ c ∧ n2 ≤ c2 ∧ n ≤ 140737488355328 ∧ n2 ≤ 140737488355328 ∧ Below W.heap.size W W'
theorem of_net (Ls : List (List RN)) (A : Option Addr) (n c : Nat) (hn : Ls.length = n) (hn2 : n ≤ 140737488355328) (ho : ofN Ls = 0) (hs : netS Ls ≤ 2048) (h64 : n ≤ 64) (W : World) (hr : RdX W A Ls) :
    Calls Tryz.prog 6 #[.slice A n c] W (GotNet W Ls) := by
  refine (of_all Ls A n c hn hn2 W hr).mono ?_
  rintro e w2 ⟨S, A, n, c, A2, n2, c2, rfl, y1, y2, y3, y4⟩
  rw [ho, if_pos rfl] at y1 y2 y3
  rw [ho]
  subst y3
  obtain ⟨A', n', c', e1, z1, z2, z3, z4⟩ := y1.form
  injection e1 with e1 e2 e3
  subst e1 e2 e3
  obtain ⟨A', n', c', e1, x1, x2, x3, x4⟩ := y2.form
  injection e1 with e1 e2 e3
  subst e1 e2 e3
  have h1 := nete_len Ls 1
  have h2 := netx_len Ls 1
  have h3 := z1.out
  have h4 := x1.out
  unfold netS at hs
  exact ⟨A, n, c, A2, n2, c2, rfl, z4, rdw_z x4, z1, by unfold zl; rw [Hid, List.length_map]; exact x1.out, z2, x2, by omega, by omega, y4⟩
theorem few_net {ts : List Rx} (h : ∀ t ∈ ts, t.size ≤ 60) (hl : ts.length ≤ 6) : ofN (flats ts) = 0 ∧ netS (flats ts) ≤ 2048 := by
  have h1 := few_sizes h
  refine ⟨few_ok h hl, ?_⟩
  unfold netS
  omega
/-- The cells of a slice of patterns. -/
theorem rdx_vals {w : World} {A : Option Addr} {Ls : List (List RN)} (h : RdX w A Ls) : ∃ vals : List Value, vals.length = Ls.length ∧ ((vals = [] ∧ A = none) ∨ ∃ ad, A = some ad ∧ ∀ j u, vals[j]? = some u → w.cell? (ad.add j) = some u) ∧
    (∀ i (hi : i < Ls.length), ∃ B m d, vals[i]? = some (.slice B m d) ∧ Ls[i].length = m ∧ m ≤ d ∧ RdR w B Ls[i]) ∧ ∀ u ∈ vals, u.oneCell' = true := by
  have each : ∀ i, i < Ls.length → ∃ v : Value, ∃ B m d, v = .slice B m d ∧ (∃ hi : i < Ls.length, Ls[i].length = m ∧ m ≤ d ∧ RdR w B Ls[i]) ∧ ∃ ad, A = some ad ∧ w.cell? (ad.add i) = some v := by
    intro i hi
    obtain ⟨ad, B, m, d, e, hc, h1, h2, h3⟩ := h i hi
    exact ⟨_, B, m, d, rfl, ⟨hi, h1, h2, h3⟩, ad, e, hc⟩
  let f : Nat → Value := fun i => if hi : i < Ls.length then (each i hi).choose else .bool false
  have hf : ∀ i (hi : i < Ls.length), f i = (each i hi).choose := fun i hi => dif_pos hi
  refine ⟨(List.range Ls.length).map f, by simp, ?_, fun i hi => ?_, fun u hu => ?_⟩
  · cases A with
    | none =>
      left
      refine ⟨?_, rfl⟩
      cases Ls with
      | nil => rfl
      | cons l Ls => obtain ⟨ad, _, _, _, e, _⟩ := h 0 (by simp); cases e
    | some ad =>
      right
      refine ⟨ad, rfl, fun j u hu => ?_⟩
      rw [List.getElem?_map] at hu
      obtain ⟨k, hk, rfl⟩ := Option.map_eq_some_iff.1 hu
      obtain ⟨hj, hk2⟩ := List.getElem?_eq_some_iff.1 hk
      rw [List.getElem_range] at hk2
      subst hk2
      have hj2 : j < Ls.length := by simpa using hj
      obtain ⟨B, m, d, e1, _, ad', e2, hc⟩ := (each j hj2).choose_spec
      obtain rfl := Option.some.inj e2
      rw [hf j hj2]
      exact hc
  · obtain ⟨B, m, d, e1, ⟨_, h1, h2, h3⟩, _⟩ := (each i hi).choose_spec
    refine ⟨B, m, d, ?_, h1, h2, h3⟩
    rw [List.getElem?_map, List.getElem?_range hi, Option.map_some, hf i hi, e1]
  · obtain ⟨i, hi, rfl⟩ := List.mem_map.1 hu
    have hi := List.mem_range.1 hi
    obtain ⟨B, m, d, e1, _⟩ := (each i hi).choose_spec
    rw [hf i hi, e1]
    rfl
/-- A row of patterns that a call made of what it read. -/
theorem rdx_row {w : World} {base : Nat} {v : Value} {Ls : List (List RN)} {vals : List Value} {n : Nat} (h : w.ownsRow base 39 1 v n vals) (hn : Ls.length = n) (hv : ∀ i (hi : i < Ls.length), ∃ B m d, vals[i]? = some (.slice B m d) ∧ Ls[i].length = m ∧ m ≤ d ∧ RdR w B Ls[i]) :
    ∃ B m d, v = .slice B m d ∧ Hid (Ls.length = m) ∧ m ≤ d ∧ RdX w B Ls := by
  subst hn
  rcases h.2 with ⟨e, hn⟩ | ⟨g, cap, cur, e, hbs, hg, hnc, hcm, r⟩
  · exact ⟨none, 0, 0, e, hn, Nat.le_refl _, fun i hi => by omega⟩
  · refine ⟨some ⟨g, 0, none⟩, _, cap, e, rfl, hnc, fun i hi => ?_⟩
    obtain ⟨B, m, d, y1, y2, y3, y4⟩ := hv i hi
    exact ⟨_, B, m, d, rfl, World.ownsRow.cells h (g := g) (by rw [e]; rfl) i _ y1, y2, y3, y4⟩
theorem RdR.keep {w w' : World} {B : Option Addr} {l : List RN} (h : RdR w B l) (hb : Below w.heap.size w w') : RdR w' B l := h.below hb
end Go.Proofs.YtjibfffefppniaaGreatDoor
