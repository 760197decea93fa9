/- Helpers of the laws of disks: EqBytes, a deed that near made. Contracts over the translated program. No condition but what each statement names. -/
import Derived.Test.YtdgaipdpebinbaaDkZ
import Derived.Test.YtdgaipdpebinbaaDkEq
set_option linter.unusedVariables false
set_option linter.unusedSimpArgs false
namespace Go.Proofs.Ytdgaipdpebinbaa
open Go.RowKit Go.Maps Go.Shelf Go.Sort

set_option maxHeartbeats 400000 in
set_option maxRecDepth 20000 in

def nearM (x : MD) : MD := ⟨x.k % 5, x.N, x.B, ⟨#[nameE x.G.size]⟩, ⟨#[nameE x.V.size]⟩, x.A, min x.m 30, x.c, x.A2, x.m2, x.c2, x.b.take 30⟩
theorem isN_one (c : UInt8) : isN ⟨#[c]⟩ = true := rfl
theorem near_may (x : MD) : (nearM x).May := by
  have h1 := Int.emod_nonneg x.k (b := 5) (by omega)
  have h2 := Int.emod_lt_of_pos x.k (b := 5) (by omega)
  exact ⟨h1, h2, fun _ => rfl, fun _ => rfl, by show 1 ≤ 40; omega, by show 1 ≤ 40; omega⟩
theorem near_len {w : World} {x : MD} (h : x.Ok w) : (nearM x).b.length = (nearM x).m := by
  show (x.b.take 30).length = min x.m 30
  rw [List.length_take, h.len]
  omega
theorem near_small (x : MD) : (nearM x).dd.small ∧ (nearM x).dd.b.length ≤ 30 := by
  refine ⟨⟨by show 1 ≤ 40; omega, by show 1 ≤ 40; omega⟩, ?_⟩
  show (x.b.take 30).length ≤ 30
  rw [List.length_take]
  omega
theorem near_md (x : MD) (w : World) {w0 : World} (h : x.Ok w0) : Calls Try.prog 7 #[x.val] w (fun e w' => e = .returned (nearM x).val ∧ Below w.heap.size w w') := by
  refine (near_any x.k x.N x.B x.G x.V x.A x.m x.c x.A2 x.m2 x.c2 w h.k1 h.k2 h.g h.v h.mc h.c).mono ?_
  rintro e w' ⟨j, rfl, rfl, hb⟩
  exact ⟨rfl, hb⟩
/-- A deed that near made, done. -/
theorem does_near {w wr : World} {own : Nat → Option Role} {d : Nat} {s : DS} (hL : Lies w wr own d s) {k m r : Nat} (hR : Run s k m r) (hk : k ≤ 1000) (hm : m ≤ 1000000) (hr : r ≤ 16777216) (x : MD) (h : x.Ok w) :
    Calls Try.prog 8 #[(nearM x).val, .pointer (some ⟨d, 0, none⟩)] wr (GotA wr own d (.int .i64 ((dE s (nearM x).dd).2 : Nat)) (dE s (nearM x).dd).1) := by
  obtain ⟨bn, bk, loc, hA⟩ := hL.disk
  have hrd : Rd w (nearM x).A (nearM x).b := h.rd.take 30
  exact does_any hA hR hk hm hr (nearM x) (near_may x) (near_len h) (hrd.below hL.below) (rd_free hL hrd) (by show min x.m 30 ≤ _; omega)
def ddN (x : MD) : Dd := (nearM x).dd
theorem run_near (R : Nat) (D : List MD) (j : Nat) : Run (dsE (newE R) ((D.take j).map ddN)) j (j * 30) R := by
  have h1 := run_ds (run_new R) 30 ((D.take j).map ddN) (fun x hx => by
    obtain ⟨y, hy, rfl⟩ := List.mem_map.1 hx
    exact near_small y)
  have hlen : ((D.take j).map ddN).length ≤ j := by simp; omega
  exact h1.mono (by omega) (by
    have : ((D.take j).map ddN).length * 30 ≤ j * 30 := Nat.mul_le_mul_right 30 hlen
    omega)
theorem near_next (R : Nat) {D : List MD} {j : Nat} (hj : j < D.length) : (dE (dsE (newE R) ((D.take j).map ddN)) (nearM D[j]).dd).1 = dsE (newE R) ((D.take (j + 1)).map ddN) := by
  rw [List.take_succ_eq_append_getElem hj, List.map_append, List.map_singleton, dsE_snoc]
  rfl
end Go.Proofs.Ytdgaipdpebinbaa
