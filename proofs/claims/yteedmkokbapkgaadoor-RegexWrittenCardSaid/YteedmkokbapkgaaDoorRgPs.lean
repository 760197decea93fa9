/- Calls on trees: takes, join, over as the laws ask them; two patterns and a text, as they lie while a law goes on. Under: math/bits' table as it was laid. -/
import Derived.Test.YteedmkokbapkgaaDoorRgLw
import Derived.Test.YteedmkokbapkgaaDoorRgWorks
set_option linter.unusedVariables false
set_option linter.unusedSimpArgs false
namespace Go.Proofs.YteedmkokbapkgaaDoor
open Go.RowKit

theorem takes_tree (t : Rx) (hs : t.size ≤ 256) (A : Option Addr) (n c : Nat) (hn : (flat 0 t).length = n) (hc : n ≤ c) (At : Option Addr) (m ct : Nat) (T : List UInt8) (hT : T.length = m) (hm : m ≤ 8192) (w : World) (hTb : Tab w) (hr : RdR w A (flat 0 t)) (ht : Rd w At T) :
    Calls Tryd.prog 18 #[.agg #[.slice A n c], .slice At m ct] w (GotBE w (tk t T, 0)) := by
  have h := takes_all (flat 0 t) A n c At m ct T hn hT w hTb hr ht hc
  rwa [takes_tk t T hs (by omega)] at h
theorem flat_pos (t : Rx) : 1 ≤ (flat 0 t).length := by rw [flat_len]; exact t.size_pos
theorem join_alt_any (a b : Rx) (A : Option Addr) (n c : Nat) (A2 : Option Addr) (m c2 : Nat) (hn : (flat 0 a).length = n) (hm : (flat 0 b).length = m) (h2 : n + m ≤ 10000) (w : World) (hr : RdR w A (flat 0 a)) (hr2 : RdR w A2 (flat 0 b)) :
    Calls Tryd.prog 23 #[.int .i64 4, .agg #[.slice A n c], .agg #[.slice A2 m c2]] w (GotX w (flat 0 (.alt a b))) := by
  have ha := flat_pos a
  have hb := flat_pos b
  have h := join_any 4 (flat 0 a) (flat 0 b) A n c A2 m c2 hn hm (by omega) (by omega) h2 (flat_small (by rw [flat_len] at hm; omega)) w hr hr2
  rwa [join_alt] at h
theorem join_seq_any (a b : Rx) (A : Option Addr) (n c : Nat) (A2 : Option Addr) (m c2 : Nat) (hn : (flat 0 a).length = n) (hm : (flat 0 b).length = m) (h2 : n + m ≤ 10000) (w : World) (hr : RdR w A (flat 0 a)) (hr2 : RdR w A2 (flat 0 b)) :
    Calls Tryd.prog 23 #[.int .i64 3, .agg #[.slice A n c], .agg #[.slice A2 m c2]] w (GotX w (flat 0 (.seq a b))) := by
  have ha := flat_pos a
  have hb := flat_pos b
  have h := join_any 3 (flat 0 a) (flat 0 b) A n c A2 m c2 hn hm (by omega) (by omega) h2 (flat_small (by rw [flat_len] at hm; omega)) w hr hr2
  rwa [join_seq] at h
theorem over_star_any (a : Rx) (A : Option Addr) (n c : Nat) (hn : (flat 0 a).length = n) (h2 : n ≤ 10000) (w : World) (hr : RdR w A (flat 0 a)) :
    Calls Tryd.prog 24 #[.int .i64 5, .agg #[.slice A n c]] w (GotX w (flat 0 (.star a))) := by
  have ha := flat_pos a
  have h := over_any 5 (flat 0 a) A n c hn (by omega) h2 w hr
  rwa [over_star a n (by rw [← hn, flat_len])] at h
theorem over_plus_any (a : Rx) (A : Option Addr) (n c : Nat) (hn : (flat 0 a).length = n) (h2 : n ≤ 10000) (w : World) (hr : RdR w A (flat 0 a)) :
    Calls Tryd.prog 24 #[.int .i64 6, .agg #[.slice A n c]] w (GotX w (flat 0 (.plus a))) := by
  have ha := flat_pos a
  have h := over_any 6 (flat 0 a) A n c hn (by omega) h2 w hr
  rwa [over_plus a n (by rw [← hn, flat_len])] at h
theorem cut_to2 (A : Option Addr) (n c k : Nat) (hk : k ≤ n) (hnc : n ≤ c) (W : World) : (Instr.slice 35 (.slice A n c) none (some (.int .i64 (k : Int))) none).run Tryd.prog W = .ok (.slice A k c) W := by
  obtain ⟨i, hi, _, hs1, _⟩ := info_parts info_u8
  have he : Tryd.prog.elem 35 = 5 := by kernel_rfl
  rw [run_slice_h W 35 A n c (by rw [he]; exact Tryd.underlying35) .i64 k (by omega) (by omega)]
  simp [sizeOf, typeInfo, he, hi, hs1, sliced, Result.andThen]
  intro _
  cases A <;> simp [Addr.add]
theorem min_lit (m k : Nat) (z : Int) (hz : (k : Int) = z) : ∃ j : Nat, Hid (j = min m k) ∧ j ≤ m ∧ j ≤ k ∧ ∀ (ts : Array TypeId) (t : TypeId) (W : World), (Builtin.min_ ts t #[.int .i64 (m : Int), .int .i64 z]).run Tryd.prog W = .ok (.int .i64 (j : Int)) W := by
  subst hz
  refine ⟨min m k, rfl, by omega, by omega, fun ts t W => ?_⟩
  rw [run_min_int2]
  have e : (if (k : Int) < m then (k : Int) else m) = ((min m k : Nat) : Int) := by split <;> omega
  rw [e]

/-- Two patterns, each in a variable, and a text, while a law goes on. -/
structure PS (w : World) (g : Nat) (A1 : Option Addr) (n1 c1 : Nat) (l1 : List RN) (A2 : Option Addr) (n2 c2 : Nat) (l2 : List RN) (A3 : Option Addr) (T : List UInt8) (W : World) : Prop where
  k1 : W.heap[g]? = some (.cells #[.slice A1 n1 c1] 24 (0, 0))
  k2 : W.heap[g + 1]? = some (.cells #[.slice A2 n2 c2] 24 (0, 0))
  r1 : RdR W A1 l1
  r2 : RdR W A2 l2
  r3 : Rd W A3 T
  tab : Tab W
  below : Below w.heap.size w W
section
variable {w W W' : World} {g n1 c1 n2 c2 : Nat} {A1 A2 A3 : Option Addr} {l1 l2 : List RN} {T : List UInt8}
theorem PS.then (h : PS w g A1 n1 c1 l1 A2 n2 c2 l2 A3 T W) (hb : Below W.heap.size W W') : PS w g A1 n1 c1 l1 A2 n2 c2 l2 A3 T W' :=
  ⟨(hb.block g (Array.getElem?_eq_some_iff.1 h.k1).1).trans h.k1, (hb.block (g + 1) (Array.getElem?_eq_some_iff.1 h.k2).1).trans h.k2, h.r1.below hb, h.r2.below hb, h.r3.below hb, h.tab.below hb, bl_trans h.below hb⟩
theorem PS.q1 (h : PS w g A1 n1 c1 l1 A2 n2 c2 l2 A3 T W) : W.cell? ⟨g, 0, none⟩ = some (.slice A1 n1 c1) := cell_of_row W _ 0 _ _ _ h.k1
theorem PS.q2 (h : PS w g A1 n1 c1 l1 A2 n2 c2 l2 A3 T W) : W.cell? ⟨g + 1, 0, none⟩ = some (.slice A2 n2 c2) := cell_of_row W _ 0 _ _ _ h.k2
theorem PS.begin (w : World) (A1 A2 A3 : Option Addr) (n1 c1 n2 c2 : Nat) (l1 l2 : List RN) (T : List UInt8) (hT : Tab w) (h1 : RdR w A1 l1) (h2 : RdR w A2 l2) (h3 : Rd w A3 T) :
    PS w w.heap.size A1 n1 c1 l1 A2 n2 c2 l2 A3 T ((w.alloc (.cells #[.slice A1 n1 c1] 24)).alloc (.cells #[.slice A2 n2 c2] 24)) := by
  have hb := bl_alloc (bl_alloc (Below.refl w.heap.size w) (.cells #[.slice A1 n1 c1] 24)) (.cells #[.slice A2 n2 c2] 24)
  refine ⟨?_, ?_, h1.below hb, h2.below hb, h3.below hb, hT.below hb, hb⟩
  · rw [Below.heap_alloc _ _ _ (by simp)]
    exact heap_alloc_new w _
  · have := heap_alloc_new (w.alloc (.cells #[.slice A1 n1 c1] 24)) (.cells #[.slice A2 n2 c2] 24)
    rwa [World.size_alloc] at this
theorem PS.cut (h : PS w g A1 n1 c1 l1 A2 n2 c2 l2 A3 T W) (k : Nat) : PS w g A1 n1 c1 l1 A2 n2 c2 l2 A3 (T.take k) W := ⟨h.k1, h.k2, h.r1, h.r2, h.r3.take k, h.tab, h.below⟩
theorem PS.drew (h : PS w g A1 n1 c1 l1 A2 n2 c2 l2 A3 T W) : PS w g A1 n1 c1 l1 A2 n2 c2 l2 A3 T W.drew := h.then (bl_drewN (Below.refl _ _) 1)
end

end Go.Proofs.YteedmkokbapkgaaDoor
