/- Of's small ones: where a part is, a free edge. -/
import Derived.Test.YtcgfogdfcdndgaaGreatDoorNfTQ
import Derived.Deep.AppendLies
import Derived.Test.YtcgfogdfcdndgaaGreatDoorRgNQ
set_option linter.unusedVariables false
set_option linter.unusedSimpArgs false
namespace Go.Proofs.YtcgfogdfcdndgaaGreatDoor
open Go.RowKit
attribute [local go_sem] Oper.semAt_some

structure Pt where
  i : Int
  o : Int
def partE (f p : Int) : Pt := ⟨f + 2 * p, f + 2 * p + 1⟩
def freeE (a b : Int) : Ed := ⟨a, b, nilS, true⟩
def GotPt (W : World) (p : Pt) (e : Ending) (W' : World) : Prop := e = .returned (.agg #[.int .i64 p.i, .int .i64 p.o]) ∧ Below W.heap.size W W'
def GotEd (W : World) (x : Ed) (e : Ending) (W' : World) : Prop := e = .returned (.agg (cellsE x).toArray) ∧ Below W.heap.size W W'
theorem size_part : (Tryz.prog.info? 150).map (·.size) = some 2 := by kernel_rfl
theorem size_edge : (Tryz.prog.info? 53).map (·.size) = some 7 := by kernel_rfl
theorem built_part (a b : Int) : Tryz.prog.built 150 [(0, Value.int .i64 a), (1, Value.int .i64 b)] = some #[.int .i64 a, .int .i64 b] := by kernel_rfl
theorem built_free (a b : Int) : Tryz.prog.built 53 [(0, Value.int .i64 a), (1, Value.int .i64 b), (3, Value.bool true)] = some #[.int .i64 a, .int .i64 b, .int .u64 0, .int .u64 0, .int .u64 0, .int .u64 0, .bool true] := by kernel_rfl
set_option maxRecDepth 20000 in
theorem part_any (f p : Int) (hf : 0 ≤ f ∧ f ≤ 1000000) (hp : -1000000 ≤ p ∧ p ≤ 1000000) (W : World) :
    Calls Tryz.prog 98 #[.int .i64 f, .int .i64 p] W (GotPt W (partE f p)) := by
  have bu := built_part (f + 2 * p) (f + 2 * p + 1)
  have h1 : IntKind.i64.wrap (2 * p) = 2 * p := IntWalk.i64_in _ (by omega)
  have h2 : IntKind.i64.wrap (f + 2 * p) = f + 2 * p := IntWalk.i64_in _ (by omega)
  have h3 : IntKind.i64.wrap (f + 2 * p + 1) = f + 2 * p + 1 := IntWalk.i64_in _ (by omega)
  generalize hQ : GotPt W (partE f p) = Q
  have HQ := Lib.hid hQ
  have B := Lib.hid (bl_alloc (Below.refl W.heap.size W) (.cells #[.int .i64 (f + 2 * p), .int .i64 (f + 2 * p + 1)] 150))
  clear hQ
  go_enter Tryz.func98, Tryz.ntmps98
  go_wp2_with fail
  refine bodyPost_ret (v := .agg #[.int .i64 (f + 2 * p), .int .i64 (f + 2 * p + 1)]) (results_cell_row rfl _ _ W.heap.size 150 _ (0, 0) _ rfl (heap_alloc_new _ _) Tryz.underlying150 rfl (by rw [size_part]; rfl)) rfl (post_is HQ ?_)
  exact ⟨rfl, B.out⟩
set_option maxRecDepth 20000 in
theorem freed_any (a b : Int) (W : World) :
    Calls Tryz.prog 99 #[.int .i64 a, .int .i64 b] W (GotEd W (freeE a b)) := by
  have bu := built_free a b
  generalize hQ : GotEd W (freeE a b) = Q
  have HQ := Lib.hid hQ
  have B := Lib.hid (bl_alloc (Below.refl W.heap.size W) (.cells #[.int .i64 a, .int .i64 b, .int .u64 0, .int .u64 0, .int .u64 0, .int .u64 0, .bool true] 53))
  clear hQ
  go_enter Tryz.func99, Tryz.ntmps99
  go_wp2_with fail
  refine bodyPost_ret (v := .agg #[.int .i64 a, .int .i64 b, .int .u64 0, .int .u64 0, .int .u64 0, .int .u64 0, .bool true]) (results_cell_row rfl _ _ W.heap.size 53 _ (0, 0) _ rfl (heap_alloc_new _ _) Tryz.underlying53 rfl (by rw [size_edge]; rfl)) rfl (post_is HQ ?_)
  exact ⟨rfl, B.out⟩

end Go.Proofs.YtcgfogdfcdndgaaGreatDoor

/- The edges of a node. -/
set_option linter.unusedVariables false
set_option linter.unusedSimpArgs false
namespace Go.Proofs.YtcgfogdfcdndgaaGreatDoor
open Go.RowKit
attribute [local go_sem] Oper.semAt_some

def cellsEs (l : List Ed) : List Value := l.flatMap cellsE
theorem cellsEs_len (l : List Ed) : (cellsEs l).length = l.length * 7 := by
  induction l with
  | nil => rfl
  | cons x l ih => rw [show cellsEs (x :: l) = cellsE x ++ cellsEs l from rfl, List.length_append, ih]; simp [cellsE]; omega
theorem cellsEs_get : ∀ (l : List Ed) (i : Nat) (h : i < l.length) (j : Nat) (u : Value), (cellsE l[i])[j]? = some u → (cellsEs l)[i * 7 + j]? = some u
  | x :: l, 0, h, j, u, hu => by
    rw [show cellsEs (x :: l) = cellsE x ++ cellsEs l from rfl]
    have hj : j < (cellsE x).length := (List.getElem?_eq_some_iff.1 hu).1
    rw [Nat.zero_mul, Nat.zero_add, List.getElem?_append_left hj]
    exact hu
  | x :: l, i + 1, h, j, u, hu => by
    rw [show cellsEs (x :: l) = cellsE x ++ cellsEs l from rfl]
    have h7 : (cellsE x).length = 7 := rfl
    rw [List.getElem?_append_right (by rw [h7]; omega), h7, show (i + 1) * 7 + j - 7 = i * 7 + j by omega]
    exact cellsEs_get l i (by simpa using h) j u hu
theorem RdE.cells {w : World} {ad : Addr} {l : List Ed} (h : RdE w (some ad) l) : ∀ j u, (cellsEs l)[j]? = some u → w.cell? (ad.add j) = some u := fun j u hu => by
  have hj := (List.getElem?_eq_some_iff.1 hu).1
  rw [cellsEs_len] at hj
  have hi : j / 7 < l.length := by omega
  obtain ⟨ad', e, hc⟩ := h (j / 7) hi
  obtain rfl := Option.some.inj e
  have hm : j % 7 < (cellsE l[j / 7]).length := by show j % 7 < 7; omega
  have h2 := cellsEs_get l (j / 7) hi (j % 7) _ (List.getElem?_eq_getElem hm)
  rw [show j / 7 * 7 + j % 7 = j by omega, hu] at h2
  have h3 := hc (j % 7) _ (List.getElem?_eq_getElem hm)
  rw [Addr.add_add, show j / 7 * 7 + j % 7 = j by omega] at h3
  rw [h3, ← h2]
theorem cellsEs_one (l : List Ed) : ∀ u ∈ cellsEs l, u.oneCell' = true := fun u hu => by
  obtain ⟨x, _, hx⟩ := List.mem_flatMap.1 hu
  simp only [cellsE, List.mem_cons, List.not_mem_nil, or_false] at hx
  rcases hx with rfl | rfl | rfl | rfl | rfl | rfl | rfl <;> rfl
theorem rde_row {w : World} {g : Nat} {l : List Ed} {vs : Array Value} {t : TypeId} (h : w.heap[g]? = some (.cells vs t (0, 0))) (hv : vs.toList = cellsEs l) : RdE w (some ⟨g, 0, none⟩) l := fun i hi => by
  refine ⟨_, rfl, fun j u hu => ?_⟩
  have h2 := cellsEs_get l i hi j u hu
  rw [addr_mk, addr_mk, Nat.zero_add, cell_of_row w g _ _ _ _ h, ← Array.getElem?_toList, hv]
  exact h2
def edgesE (x : RN) (n a b : Pt) : List Ed :=
  if x.kind = 2 then [⟨n.i, n.o, x.set, false⟩]
  else if x.kind = 3 then [freeE n.i a.i, freeE a.o b.i, freeE b.o n.o]
  else if x.kind = 4 then [freeE n.i a.i, freeE n.i b.i, freeE a.o n.o, freeE b.o n.o]
  else if x.kind = 5 then [freeE n.i n.o, freeE n.i a.i, freeE a.o a.i, freeE a.o n.o]
  else if x.kind = 6 then [freeE n.i a.i, freeE a.o a.i, freeE a.o n.o]
  else [freeE n.i n.o]
def GotEs (W : World) (l : List Ed) (e : Ending) (W' : World) : Prop := ∃ g n, e = .returned (.slice (some ⟨g, 0, none⟩) n n) ∧ l.length = n ∧ RdE W' (some ⟨g, 0, none⟩) l ∧ Below W.heap.size W W'
def GotFr (W : World) (a b : Int) (e : Ending) (W' : World) : Prop := e = .returned (.agg #[.int .i64 a, .int .i64 b, .int .u64 0, .int .u64 0, .int .u64 0, .int .u64 0, .bool true]) ∧ Below W.heap.size W W'
theorem fr_any (a b : Int) (W : World) : Calls Tryz.prog 99 #[.int .i64 a, .int .i64 b] W (GotFr W a b) := (freed_any a b W).mono fun e w h => h
theorem built_edge (a b z0 z1 z2 z3 : Int) : Tryz.prog.built 53 [(0, Value.int .i64 a), (1, Value.int .i64 b), (2, .agg #[.int .u64 z0, .int .u64 z1, .int .u64 z2, .int .u64 z3])] = some #[.int .i64 a, .int .i64 b, .int .u64 z0, .int .u64 z1, .int .u64 z2, .int .u64 z3, .bool false] := by kernel_rfl

set_option maxRecDepth 100000 in
set_option maxHeartbeats 8000000 in
theorem edges_any (x : RN) (n a b : Pt) (W : World) :
    Calls Tryz.prog 97 #[aggR x, .agg #[.int .i64 n.i, .int .i64 n.o], .agg #[.int .i64 a.i, .int .i64 a.o], .agg #[.int .i64 b.i, .int .i64 b.o]] W (GotEs W (edgesE x n a b)) := by
  obtain ⟨k, xa, xb, z0, z1, z2, z3⟩ := x
  obtain ⟨ni, no⟩ := n
  obtain ⟨ai, ao⟩ := a
  obtain ⟨bi, bo⟩ := b
  generalize hQ : GotEs W (edgesE ⟨k, xa, xb, z0, z1, z2, z3⟩ ⟨ni, no⟩ ⟨ai, ao⟩ ⟨bi, bo⟩) = Q
  have HQ := Lib.hid hQ
  clear hQ
  show Calls Tryz.prog 97 #[.agg #[.int .i64 k, .int .u64 (z0.toNat : Int), .int .u64 (z1.toNat : Int), .int .u64 (z2.toNat : Int), .int .u64 (z3.toNat : Int), .int .i64 xa, .int .i64 xb], .agg #[.int .i64 ni, .int .i64 no], .agg #[.int .i64 ai, .int .i64 ao], .agg #[.int .i64 bi, .int .i64 bo]] W Q
  have bu := built_edge ni no z0.toNat z1.toNat z2.toNat z3.toNat
  go_enter Tryz.func97, Tryz.ntmps97
  go_upto_region 1 with fail
  have k4 : ((((W.alloc (.cells #[.int .i64 k, .int .u64 (z0.toNat : Int), .int .u64 (z1.toNat : Int), .int .u64 (z2.toNat : Int), .int .u64 (z3.toNat : Int), .int .i64 xa, .int .i64 xb] 147)).alloc (.cells #[.int .i64 ni, .int .i64 no] 150)).alloc (.cells #[.int .i64 ai, .int .i64 ao] 150)).alloc (.cells #[.int .i64 bi, .int .i64 bo] 150)).heap[W.heap.size]? = some (.cells #[.int .i64 k, .int .u64 (z0.toNat : Int), .int .u64 (z1.toNat : Int), .int .u64 (z2.toNat : Int), .int .u64 (z3.toNat : Int), .int .i64 xa, .int .i64 xb] 147 (0, 0)) := by
    have h := heap_alloc_new W (.cells #[.int .i64 k, .int .u64 (z0.toNat : Int), .int .u64 (z1.toNat : Int), .int .u64 (z2.toNat : Int), .int .u64 (z3.toNat : Int), .int .i64 xa, .int .i64 xb] 147)
    rw [← Below.heap_alloc (W.alloc (.cells #[.int .i64 k, .int .u64 (z0.toNat : Int), .int .u64 (z1.toNat : Int), .int .u64 (z2.toNat : Int), .int .u64 (z3.toNat : Int), .int .i64 xa, .int .i64 xb] 147)) (.cells #[.int .i64 ni, .int .i64 no] 150) (W.heap.size) (by simp only [World.size_alloc]; omega)] at h
    rw [← Below.heap_alloc ((W.alloc (.cells #[.int .i64 k, .int .u64 (z0.toNat : Int), .int .u64 (z1.toNat : Int), .int .u64 (z2.toNat : Int), .int .u64 (z3.toNat : Int), .int .i64 xa, .int .i64 xb] 147)).alloc (.cells #[.int .i64 ni, .int .i64 no] 150)) (.cells #[.int .i64 ai, .int .i64 ao] 150) (W.heap.size) (by simp only [World.size_alloc]; omega)] at h
    rw [← Below.heap_alloc (((W.alloc (.cells #[.int .i64 k, .int .u64 (z0.toNat : Int), .int .u64 (z1.toNat : Int), .int .u64 (z2.toNat : Int), .int .u64 (z3.toNat : Int), .int .i64 xa, .int .i64 xb] 147)).alloc (.cells #[.int .i64 ni, .int .i64 no] 150)).alloc (.cells #[.int .i64 ai, .int .i64 ao] 150)) (.cells #[.int .i64 bi, .int .i64 bo] 150) (W.heap.size) (by simp only [World.size_alloc]; omega)] at h
    exact h
  have k5 : ((((W.alloc (.cells #[.int .i64 k, .int .u64 (z0.toNat : Int), .int .u64 (z1.toNat : Int), .int .u64 (z2.toNat : Int), .int .u64 (z3.toNat : Int), .int .i64 xa, .int .i64 xb] 147)).alloc (.cells #[.int .i64 ni, .int .i64 no] 150)).alloc (.cells #[.int .i64 ai, .int .i64 ao] 150)).alloc (.cells #[.int .i64 bi, .int .i64 bo] 150)).heap[W.heap.size + 1]? = some (.cells #[.int .i64 ni, .int .i64 no] 150 (0, 0)) := by
    have h := heap_alloc_new (W.alloc (.cells #[.int .i64 k, .int .u64 (z0.toNat : Int), .int .u64 (z1.toNat : Int), .int .u64 (z2.toNat : Int), .int .u64 (z3.toNat : Int), .int .i64 xa, .int .i64 xb] 147)) (.cells #[.int .i64 ni, .int .i64 no] 150)
    rw [World.size_alloc] at h
    rw [← Below.heap_alloc ((W.alloc (.cells #[.int .i64 k, .int .u64 (z0.toNat : Int), .int .u64 (z1.toNat : Int), .int .u64 (z2.toNat : Int), .int .u64 (z3.toNat : Int), .int .i64 xa, .int .i64 xb] 147)).alloc (.cells #[.int .i64 ni, .int .i64 no] 150)) (.cells #[.int .i64 ai, .int .i64 ao] 150) (W.heap.size + 1) (by simp only [World.size_alloc]; omega)] at h
    rw [← Below.heap_alloc (((W.alloc (.cells #[.int .i64 k, .int .u64 (z0.toNat : Int), .int .u64 (z1.toNat : Int), .int .u64 (z2.toNat : Int), .int .u64 (z3.toNat : Int), .int .i64 xa, .int .i64 xb] 147)).alloc (.cells #[.int .i64 ni, .int .i64 no] 150)).alloc (.cells #[.int .i64 ai, .int .i64 ao] 150)) (.cells #[.int .i64 bi, .int .i64 bo] 150) (W.heap.size + 1) (by simp only [World.size_alloc]; omega)] at h
    exact h
  have k6 : ((((W.alloc (.cells #[.int .i64 k, .int .u64 (z0.toNat : Int), .int .u64 (z1.toNat : Int), .int .u64 (z2.toNat : Int), .int .u64 (z3.toNat : Int), .int .i64 xa, .int .i64 xb] 147)).alloc (.cells #[.int .i64 ni, .int .i64 no] 150)).alloc (.cells #[.int .i64 ai, .int .i64 ao] 150)).alloc (.cells #[.int .i64 bi, .int .i64 bo] 150)).heap[W.heap.size + 1 + 1]? = some (.cells #[.int .i64 ai, .int .i64 ao] 150 (0, 0)) := by
    have h := heap_alloc_new ((W.alloc (.cells #[.int .i64 k, .int .u64 (z0.toNat : Int), .int .u64 (z1.toNat : Int), .int .u64 (z2.toNat : Int), .int .u64 (z3.toNat : Int), .int .i64 xa, .int .i64 xb] 147)).alloc (.cells #[.int .i64 ni, .int .i64 no] 150)) (.cells #[.int .i64 ai, .int .i64 ao] 150)
    rw [World.size_alloc, World.size_alloc] at h
    rw [← Below.heap_alloc (((W.alloc (.cells #[.int .i64 k, .int .u64 (z0.toNat : Int), .int .u64 (z1.toNat : Int), .int .u64 (z2.toNat : Int), .int .u64 (z3.toNat : Int), .int .i64 xa, .int .i64 xb] 147)).alloc (.cells #[.int .i64 ni, .int .i64 no] 150)).alloc (.cells #[.int .i64 ai, .int .i64 ao] 150)) (.cells #[.int .i64 bi, .int .i64 bo] 150) (W.heap.size + 1 + 1) (by simp only [World.size_alloc]; omega)] at h
    exact h
  have k7 : ((((W.alloc (.cells #[.int .i64 k, .int .u64 (z0.toNat : Int), .int .u64 (z1.toNat : Int), .int .u64 (z2.toNat : Int), .int .u64 (z3.toNat : Int), .int .i64 xa, .int .i64 xb] 147)).alloc (.cells #[.int .i64 ni, .int .i64 no] 150)).alloc (.cells #[.int .i64 ai, .int .i64 ao] 150)).alloc (.cells #[.int .i64 bi, .int .i64 bo] 150)).heap[W.heap.size + 1 + 1 + 1]? = some (.cells #[.int .i64 bi, .int .i64 bo] 150 (0, 0)) := by
    have h := heap_alloc_new (((W.alloc (.cells #[.int .i64 k, .int .u64 (z0.toNat : Int), .int .u64 (z1.toNat : Int), .int .u64 (z2.toNat : Int), .int .u64 (z3.toNat : Int), .int .i64 xa, .int .i64 xb] 147)).alloc (.cells #[.int .i64 ni, .int .i64 no] 150)).alloc (.cells #[.int .i64 ai, .int .i64 ao] 150)) (.cells #[.int .i64 bi, .int .i64 bo] 150)
    rw [World.size_alloc, World.size_alloc, World.size_alloc] at h
    exact h
  have b4 := bl_alloc (bl_alloc (bl_alloc (bl_alloc (Below.refl W.heap.size W) (.cells #[.int .i64 k, .int .u64 (z0.toNat : Int), .int .u64 (z1.toNat : Int), .int .u64 (z2.toNat : Int), .int .u64 (z3.toNat : Int), .int .i64 xa, .int .i64 xb] 147)) (.cells #[.int .i64 ni, .int .i64 no] 150)) (.cells #[.int .i64 ai, .int .i64 ao] 150)) (.cells #[.int .i64 bi, .int .i64 bo] 150)
  generalize (((W.alloc (.cells #[.int .i64 k, .int .u64 (z0.toNat : Int), .int .u64 (z1.toNat : Int), .int .u64 (z2.toNat : Int), .int .u64 (z3.toNat : Int), .int .i64 xa, .int .i64 xb] 147)).alloc (.cells #[.int .i64 ni, .int .i64 no] 150)).alloc (.cells #[.int .i64 ai, .int .i64 ao] 150)).alloc (.cells #[.int .i64 bi, .int .i64 bo] 150) = w4 at *
  have B4 := Lib.hid b4
  clear b4
  obtain ⟨g4, hg4⟩ : ∃ g, W.heap.size = g := ⟨_, rfl⟩
  simp only [hg4] at k4 k5 k6 k7 ⊢
  clear hg4
  obtain ⟨g5, hg5⟩ : ∃ g, g4 + 1 = g := ⟨_, rfl⟩
  simp only [hg5] at k5 k6 k7 ⊢
  clear hg5
  obtain ⟨g6, hg6⟩ : ∃ g, g5 + 1 = g := ⟨_, rfl⟩
  simp only [hg6] at k6 k7 ⊢
  clear hg6
  obtain ⟨g7, hg7⟩ : ∃ g, g6 + 1 = g := ⟨_, rfl⟩
  simp only [hg7] at k7 ⊢
  clear hg7
  have q40 := cell_of_row w4 g4 0 _ _ _ k4
  have q50 := cell_of_row w4 g5 0 _ _ _ k5
  have q51 := cell_of_row w4 g5 1 _ _ _ k5
  have q60 := cell_of_row w4 g6 0 _ _ _ k6
  have q61 := cell_of_row w4 g6 1 _ _ _ k6
  have q70 := cell_of_row w4 g7 0 _ _ _ k7
  have q71 := cell_of_row w4 g7 1 _ _ _ k7
  have L4 := Lib.hid (show ∀ t u, [Value.int .u64 (z0.toNat : Int), .int .u64 (z1.toNat : Int), .int .u64 (z2.toNat : Int), .int .u64 (z3.toNat : Int)][t]? = some u → w4.cell? ((⟨g4, 1, none⟩ : Addr).add t) = some u from fun t u hu => by
    rw [addr_mk]
    match t, hu with
    | 0, hu => (rw [cell_of_row w4 g4 _ _ _ _ k4]; exact hu)
    | 1, hu => (rw [cell_of_row w4 g4 _ _ _ _ k4]; exact hu)
    | 2, hu => (rw [cell_of_row w4 g4 _ _ _ _ k4]; exact hu)
    | 3, hu => (rw [cell_of_row w4 g4 _ _ _ _ k4]; exact hu)
    | t + 4, hu => exact absurd hu (by simp))
  clear k4
  by_cases h2 : k = 2
  · have HE := Lib.hid (show edgesE ⟨k, xa, xb, z0, z1, z2, z3⟩ ⟨ni, no⟩ ⟨ai, ao⟩ ⟨bi, bo⟩ = [⟨ni, no, ⟨z0, z1, z2, z3⟩, false⟩] by rw [edgesE, if_pos h2])
    have e2 : (k == 2) = true := by simp [h2]
    clear h2 k5 k6 k7
    go_wp2_with (refine wpList_load_part 51 4 _ rfl rfl ⟨g4, 1, none⟩ rfl [.int .u64 (z0.toNat : Int), .int .u64 (z1.toNat : Int), .int .u64 (z2.toNat : Int), .int .u64 (z3.toNat : Int)] (agg_st _) (sz_st _) rfl L4.out ?_)
    refine post_is HQ ⟨_, _, rfl, by rw [HE.out]; rfl, ?_, bl_alloc B4.out _⟩
    rw [HE.out]
    exact rde_row (heap_alloc_new _ _) rfl
  have e2 : (k == 2) = false := by simp [h2]
  by_cases h3 : k = 3
  · have HE := Lib.hid (show edgesE ⟨k, xa, xb, z0, z1, z2, z3⟩ ⟨ni, no⟩ ⟨ai, ao⟩ ⟨bi, bo⟩ = [freeE ni ai, freeE ao bi, freeE bo no] by rw [edgesE, if_neg h2, if_pos h3])
    have e3 : (k == 3) = true := by simp [h3]
    clear L4 bu h2 h3
    go_upto_region 5 with fail
    clear q40 q50 q51 q60 q61 q70 q71
    refine wp_region_held_drew (S := (fun W' => W'.heap[g5]? = some (.cells #[.int .i64 ni, .int .i64 no] 150 (0, 0)) ∧ W'.heap[g6]? = some (.cells #[.int .i64 ai, .int .i64 ao] 150 (0, 0)) ∧ W'.heap[g7]? = some (.cells #[.int .i64 bi, .int .i64 bo] 150 (0, 0)))) (by kernel_rfl) ⟨k5, k6, k7⟩ (fun hHeld => ?_)
    try simp only [zzA, zzB, zzC, Act.put, zzD, zzE, zzF]
    refine wpAnyH_take (i := 0) (v := ?vzr30) rfl (by kernel_rfl) (by kernel_rfl) (by kernel_rfl) (fun _ _ _ h => h) (Or.inl ⟨by rfl, ?yzr30⟩) hHeld ?rzr30
    case yzr30 => (intro wS hSw; clear hSw; go_simp; try (with_reducible rfl))
    try simp only [zzA, zzB, zzC, Act.put, zzD, zzE, zzF]
    refine wpAnyH_take (i := 1) (v := ?vzr31) rfl (by kernel_rfl) (by kernel_rfl) (by kernel_rfl) (fun _ _ _ h => h) (Or.inl ⟨by rfl, ?yzr31⟩) hHeld ?rzr31
    case yzr31 => (intro wS hSw; have q1 := cell_of_row wS g5 0 _ _ _ hSw.1; clear hSw; go_simp; try (with_reducible rfl))
    try simp only [zzA, zzB, zzC, Act.put, zzD, zzE, zzF]
    refine wpAnyH_take (i := 2) (v := ?vzr32) rfl (by kernel_rfl) (by kernel_rfl) (by kernel_rfl) (fun _ _ _ h => h) (Or.inl ⟨by rfl, ?yzr32⟩) hHeld ?rzr32
    case yzr32 => (intro wS hSw; clear hSw; go_simp; try (with_reducible rfl))
    try simp only [zzA, zzB, zzC, Act.put, zzD, zzE, zzF]
    refine wpAnyH_take (i := 3) (v := ?vzr33) rfl (by kernel_rfl) (by kernel_rfl) (by kernel_rfl) (fun _ _ _ h => h) (Or.inl ⟨by rfl, ?yzr33⟩) hHeld ?rzr33
    case yzr33 => (intro wS hSw; have q1 := cell_of_row wS g6 0 _ _ _ hSw.2.1; clear hSw; go_simp; try (with_reducible rfl))
    try simp only [zzA, zzB, zzC, Act.put, zzD, zzE, zzF]
    refine wpAnyH_take (i := 5) (v := ?vzr35) rfl (by kernel_rfl) (by kernel_rfl) (by kernel_rfl) (fun _ _ _ h => h) (Or.inl ⟨by rfl, ?yzr35⟩) hHeld ?rzr35
    case yzr35 => (intro wS hSw; clear hSw; go_simp; try (with_reducible rfl))
    try simp only [zzA, zzB, zzC, Act.put, zzD, zzE, zzF]
    refine wpAnyH_take (i := 6) (v := ?vzr36) rfl (by kernel_rfl) (by kernel_rfl) (by kernel_rfl) (fun _ _ _ h => h) (Or.inl ⟨by rfl, ?yzr36⟩) hHeld ?rzr36
    case yzr36 => (intro wS hSw; have q1 := cell_of_row wS g6 1 _ _ _ hSw.2.1; clear hSw; go_simp; try (with_reducible rfl))
    try simp only [zzA, zzB, zzC, Act.put, zzD, zzE, zzF]
    refine wpAnyH_take (i := 7) (v := ?vzr37) rfl (by kernel_rfl) (by kernel_rfl) (by kernel_rfl) (fun _ _ _ h => h) (Or.inl ⟨by rfl, ?yzr37⟩) hHeld ?rzr37
    case yzr37 => (intro wS hSw; clear hSw; go_simp; try (with_reducible rfl))
    try simp only [zzA, zzB, zzC, Act.put, zzD, zzE, zzF]
    refine wpAnyH_take (i := 8) (v := ?vzr38) rfl (by kernel_rfl) (by kernel_rfl) (by kernel_rfl) (fun _ _ _ h => h) (Or.inl ⟨by rfl, ?yzr38⟩) hHeld ?rzr38
    case yzr38 => (intro wS hSw; have q1 := cell_of_row wS g7 0 _ _ _ hSw.2.2; clear hSw; go_simp; try (with_reducible rfl))
    try simp only [zzA, zzB, zzC, Act.put, zzD, zzE, zzF]
    refine wpAnyH_take (i := 10) (v := ?vzr310) rfl (by kernel_rfl) (by kernel_rfl) (by kernel_rfl) (fun _ _ _ h => h) (Or.inl ⟨by rfl, ?yzr310⟩) hHeld ?rzr310
    case yzr310 => (intro wS hSw; clear hSw; go_simp; try (with_reducible rfl))
    try simp only [zzA, zzB, zzC, Act.put, zzD, zzE, zzF]
    refine wpAnyH_take (i := 11) (v := ?vzr311) rfl (by kernel_rfl) (by kernel_rfl) (by kernel_rfl) (fun _ _ _ h => h) (Or.inl ⟨by rfl, ?yzr311⟩) hHeld ?rzr311
    case yzr311 => (intro wS hSw; have q1 := cell_of_row wS g7 1 _ _ _ hSw.2.2; clear hSw; go_simp; try (with_reducible rfl))
    try simp only [zzA, zzB, zzC, Act.put, zzD, zzE, zzF]
    refine wpAnyH_take (i := 12) (v := ?vzr312) rfl (by kernel_rfl) (by kernel_rfl) (by kernel_rfl) (fun _ _ _ h => h) (Or.inl ⟨by rfl, ?yzr312⟩) hHeld ?rzr312
    case yzr312 => (intro wS hSw; clear hSw; go_simp; try (with_reducible rfl))
    try simp only [zzA, zzB, zzC, Act.put, zzD, zzE, zzF]
    refine wpAnyH_take (i := 13) (v := ?vzr313) rfl (by kernel_rfl) (by kernel_rfl) (by kernel_rfl) (fun _ _ _ h => h) (Or.inl ⟨by rfl, ?yzr313⟩) hHeld ?rzr313
    case yzr313 => (intro wS hSw; have q1 := cell_of_row wS g5 1 _ _ _ hSw.1; clear hSw; go_simp; try (with_reducible rfl))
    try simp only [zzA, zzB, zzC, Act.put, zzD, zzE, zzF]
    have C0 := Lib.hid (bl_drewN B4.out 1)
    clear k5 k6 k7
    refine wpAnyH_ready (rs := [4]) (by kernel_rfl) (by simp) (AllReadyH.cons rfl (fun K hK => ?_) AllReadyH.nil)
    go_simp
    go_at_call 99
    refine (fr_any ni ai _).mono ?_
    rintro e v1 ⟨rfl, hb1⟩
    have hS1 : (fun W' => W'.heap[g5]? = some (.cells #[.int .i64 ni, .int .i64 no] 150 (0, 0)) ∧ W'.heap[g6]? = some (.cells #[.int .i64 ai, .int .i64 ao] 150 (0, 0)) ∧ W'.heap[g7]? = some (.cells #[.int .i64 bi, .int .i64 bo] 150 (0, 0))) v1 := ⟨(hb1.block g5 (Array.getElem?_eq_some_iff.1 hHeld.1).1).trans hHeld.1, (hb1.block g6 (Array.getElem?_eq_some_iff.1 hHeld.2.1).1).trans hHeld.2.1, (hb1.block g7 (Array.getElem?_eq_some_iff.1 hHeld.2.2).1).trans hHeld.2.2⟩
    have C1 := Lib.hid (bl_trans C0.out hb1)
    clear C0
    clear hHeld hb1
    go_wp2_with fail
    refine hK.out _ _ hS1 (fun hHeld => ?_)
    clear hK K hS1
    try simp only [zzA, zzB, zzC, Act.put, zzD, zzE, zzF]
    refine wpAnyH_ready (rs := [9]) (by kernel_rfl) (by simp) (AllReadyH.cons rfl (fun K hK => ?_) AllReadyH.nil)
    go_simp
    go_at_call 99
    refine (fr_any ao bi _).mono ?_
    rintro e v2 ⟨rfl, hb1⟩
    have hS1 : (fun W' => W'.heap[g5]? = some (.cells #[.int .i64 ni, .int .i64 no] 150 (0, 0)) ∧ W'.heap[g6]? = some (.cells #[.int .i64 ai, .int .i64 ao] 150 (0, 0)) ∧ W'.heap[g7]? = some (.cells #[.int .i64 bi, .int .i64 bo] 150 (0, 0))) v2 := ⟨(hb1.block g5 (Array.getElem?_eq_some_iff.1 hHeld.1).1).trans hHeld.1, (hb1.block g6 (Array.getElem?_eq_some_iff.1 hHeld.2.1).1).trans hHeld.2.1, (hb1.block g7 (Array.getElem?_eq_some_iff.1 hHeld.2.2).1).trans hHeld.2.2⟩
    have C2 := Lib.hid (bl_trans C1.out hb1)
    clear C1
    clear hHeld hb1
    go_wp2_with fail
    refine hK.out _ _ hS1 (fun hHeld => ?_)
    clear hK K hS1
    try simp only [zzA, zzB, zzC, Act.put, zzD, zzE, zzF]
    refine wpAnyH_ready (rs := [14]) (by kernel_rfl) (by simp) (AllReadyH.cons rfl (fun K hK => ?_) AllReadyH.nil)
    go_simp
    go_at_call 99
    refine (fr_any bo no _).mono ?_
    rintro e v3 ⟨rfl, hb1⟩
    have hS1 : (fun W' => W'.heap[g5]? = some (.cells #[.int .i64 ni, .int .i64 no] 150 (0, 0)) ∧ W'.heap[g6]? = some (.cells #[.int .i64 ai, .int .i64 ao] 150 (0, 0)) ∧ W'.heap[g7]? = some (.cells #[.int .i64 bi, .int .i64 bo] 150 (0, 0))) v3 := ⟨(hb1.block g5 (Array.getElem?_eq_some_iff.1 hHeld.1).1).trans hHeld.1, (hb1.block g6 (Array.getElem?_eq_some_iff.1 hHeld.2.1).1).trans hHeld.2.1, (hb1.block g7 (Array.getElem?_eq_some_iff.1 hHeld.2.2).1).trans hHeld.2.2⟩
    have C3 := Lib.hid (bl_trans C2.out hb1)
    clear C2
    clear hHeld hb1
    go_wp2_with fail
    refine hK.out _ _ hS1 (fun hHeld => ?_)
    clear hK K hS1
    try simp only [zzA, zzB, zzC, Act.put, zzD, zzE, zzF]
    refine wpAnyH_ready (rs := [15]) (by kernel_rfl) (by simp) (AllReadyH.cons rfl (fun K hK => ?_) AllReadyH.nil)
    have HN := Lib.hid (heap_alloc_new v3 (.cells #[.int .i64 ni, .int .i64 ai, .int .u64 0, .int .u64 0, .int .u64 0, .int .u64 0, .bool true, .int .i64 ao, .int .i64 bi, .int .u64 0, .int .u64 0, .int .u64 0, .int .u64 0, .bool true, .int .i64 bo, .int .i64 no, .int .u64 0, .int .u64 0, .int .u64 0, .int .u64 0, .bool true] 53))
    have hS1 : (fun W' => W'.heap[g5]? = some (.cells #[.int .i64 ni, .int .i64 no] 150 (0, 0)) ∧ W'.heap[g6]? = some (.cells #[.int .i64 ai, .int .i64 ao] 150 (0, 0)) ∧ W'.heap[g7]? = some (.cells #[.int .i64 bi, .int .i64 bo] 150 (0, 0))) (v3.alloc (.cells #[.int .i64 ni, .int .i64 ai, .int .u64 0, .int .u64 0, .int .u64 0, .int .u64 0, .bool true, .int .i64 ao, .int .i64 bi, .int .u64 0, .int .u64 0, .int .u64 0, .int .u64 0, .bool true, .int .i64 bo, .int .i64 no, .int .u64 0, .int .u64 0, .int .u64 0, .int .u64 0, .bool true] 53)) := ⟨(Below.heap_alloc _ _ g5 (Array.getElem?_eq_some_iff.1 hHeld.1).1).trans hHeld.1, (Below.heap_alloc _ _ g6 (Array.getElem?_eq_some_iff.1 hHeld.2.1).1).trans hHeld.2.1, (Below.heap_alloc _ _ g7 (Array.getElem?_eq_some_iff.1 hHeld.2.2).1).trans hHeld.2.2⟩
    have CC := Lib.hid (bl_alloc C3.out (.cells #[.int .i64 ni, .int .i64 ai, .int .u64 0, .int .u64 0, .int .u64 0, .int .u64 0, .bool true, .int .i64 ao, .int .i64 bi, .int .u64 0, .int .u64 0, .int .u64 0, .int .u64 0, .bool true, .int .i64 bo, .int .i64 no, .int .u64 0, .int .u64 0, .int .u64 0, .int .u64 0, .bool true] 53))
    clear hHeld C3
    go_simp
    refine hK.out _ _ hS1 (fun hHeld => ?_)
    clear hK K hS1
    try simp only [zzA, zzB, zzC, Act.put, zzD, zzE, zzF]
    refine wpAnyH_take (i := 16) (v := ?vzr316) rfl (by kernel_rfl) (by kernel_rfl) (by kernel_rfl) (fun _ _ _ h => h) (Or.inl ⟨by rfl, ?yzr316⟩) hHeld ?rzr316
    case yzr316 => (intro wS hSw; clear hSw; go_simp; try (with_reducible rfl))
    try simp only [zzA, zzB, zzC, Act.put, zzD, zzE, zzF]
    refine wpAnyH_done (by kernel_rfl) ?_ _
    clear hHeld
    go_wp2_with fail
    refine post_is HQ ⟨_, _, rfl, by rw [HE.out]; rfl, ?_, CC.out⟩
    rw [HE.out]
    exact rde_row HN.out rfl
  have e3 : (k == 3) = false := by simp [h3]
  by_cases h4 : k = 4
  · have HE := Lib.hid (show edgesE ⟨k, xa, xb, z0, z1, z2, z3⟩ ⟨ni, no⟩ ⟨ai, ao⟩ ⟨bi, bo⟩ = [freeE ni ai, freeE ni bi, freeE ao no, freeE bo no] by rw [edgesE, if_neg h2, if_neg h3, if_pos h4])
    have e4 : (k == 4) = true := by simp [h4]
    clear L4 bu h2 h3 h4
    go_upto_region 7 with fail
    clear q40 q50 q51 q60 q61 q70 q71
    refine wp_region_held_drew (S := (fun W' => W'.heap[g5]? = some (.cells #[.int .i64 ni, .int .i64 no] 150 (0, 0)) ∧ W'.heap[g6]? = some (.cells #[.int .i64 ai, .int .i64 ao] 150 (0, 0)) ∧ W'.heap[g7]? = some (.cells #[.int .i64 bi, .int .i64 bo] 150 (0, 0)))) (by kernel_rfl) ⟨k5, k6, k7⟩ (fun hHeld => ?_)
    try simp only [zzA, zzB, zzC, Act.put, zzD, zzE, zzF]
    refine wpAnyH_take (i := 0) (v := ?vzr40) rfl (by kernel_rfl) (by kernel_rfl) (by kernel_rfl) (fun _ _ _ h => h) (Or.inl ⟨by rfl, ?yzr40⟩) hHeld ?rzr40
    case yzr40 => (intro wS hSw; clear hSw; go_simp; try (with_reducible rfl))
    try simp only [zzA, zzB, zzC, Act.put, zzD, zzE, zzF]
    refine wpAnyH_take (i := 1) (v := ?vzr41) rfl (by kernel_rfl) (by kernel_rfl) (by kernel_rfl) (fun _ _ _ h => h) (Or.inl ⟨by rfl, ?yzr41⟩) hHeld ?rzr41
    case yzr41 => (intro wS hSw; have q1 := cell_of_row wS g5 0 _ _ _ hSw.1; clear hSw; go_simp; try (with_reducible rfl))
    try simp only [zzA, zzB, zzC, Act.put, zzD, zzE, zzF]
    refine wpAnyH_take (i := 2) (v := ?vzr42) rfl (by kernel_rfl) (by kernel_rfl) (by kernel_rfl) (fun _ _ _ h => h) (Or.inl ⟨by rfl, ?yzr42⟩) hHeld ?rzr42
    case yzr42 => (intro wS hSw; clear hSw; go_simp; try (with_reducible rfl))
    try simp only [zzA, zzB, zzC, Act.put, zzD, zzE, zzF]
    refine wpAnyH_take (i := 3) (v := ?vzr43) rfl (by kernel_rfl) (by kernel_rfl) (by kernel_rfl) (fun _ _ _ h => h) (Or.inl ⟨by rfl, ?yzr43⟩) hHeld ?rzr43
    case yzr43 => (intro wS hSw; have q1 := cell_of_row wS g6 0 _ _ _ hSw.2.1; clear hSw; go_simp; try (with_reducible rfl))
    try simp only [zzA, zzB, zzC, Act.put, zzD, zzE, zzF]
    refine wpAnyH_take (i := 5) (v := ?vzr45) rfl (by kernel_rfl) (by kernel_rfl) (by kernel_rfl) (fun _ _ _ h => h) (Or.inl ⟨by rfl, ?yzr45⟩) hHeld ?rzr45
    case yzr45 => (intro wS hSw; clear hSw; go_simp; try (with_reducible rfl))
    try simp only [zzA, zzB, zzC, Act.put, zzD, zzE, zzF]
    refine wpAnyH_take (i := 6) (v := ?vzr46) rfl (by kernel_rfl) (by kernel_rfl) (by kernel_rfl) (fun _ _ _ h => h) (Or.inl ⟨by rfl, ?yzr46⟩) hHeld ?rzr46
    case yzr46 => (intro wS hSw; have q1 := cell_of_row wS g5 0 _ _ _ hSw.1; clear hSw; go_simp; try (with_reducible rfl))
    try simp only [zzA, zzB, zzC, Act.put, zzD, zzE, zzF]
    refine wpAnyH_take (i := 7) (v := ?vzr47) rfl (by kernel_rfl) (by kernel_rfl) (by kernel_rfl) (fun _ _ _ h => h) (Or.inl ⟨by rfl, ?yzr47⟩) hHeld ?rzr47
    case yzr47 => (intro wS hSw; clear hSw; go_simp; try (with_reducible rfl))
    try simp only [zzA, zzB, zzC, Act.put, zzD, zzE, zzF]
    refine wpAnyH_take (i := 8) (v := ?vzr48) rfl (by kernel_rfl) (by kernel_rfl) (by kernel_rfl) (fun _ _ _ h => h) (Or.inl ⟨by rfl, ?yzr48⟩) hHeld ?rzr48
    case yzr48 => (intro wS hSw; have q1 := cell_of_row wS g7 0 _ _ _ hSw.2.2; clear hSw; go_simp; try (with_reducible rfl))
    try simp only [zzA, zzB, zzC, Act.put, zzD, zzE, zzF]
    refine wpAnyH_take (i := 10) (v := ?vzr410) rfl (by kernel_rfl) (by kernel_rfl) (by kernel_rfl) (fun _ _ _ h => h) (Or.inl ⟨by rfl, ?yzr410⟩) hHeld ?rzr410
    case yzr410 => (intro wS hSw; clear hSw; go_simp; try (with_reducible rfl))
    try simp only [zzA, zzB, zzC, Act.put, zzD, zzE, zzF]
    refine wpAnyH_take (i := 11) (v := ?vzr411) rfl (by kernel_rfl) (by kernel_rfl) (by kernel_rfl) (fun _ _ _ h => h) (Or.inl ⟨by rfl, ?yzr411⟩) hHeld ?rzr411
    case yzr411 => (intro wS hSw; have q1 := cell_of_row wS g6 1 _ _ _ hSw.2.1; clear hSw; go_simp; try (with_reducible rfl))
    try simp only [zzA, zzB, zzC, Act.put, zzD, zzE, zzF]
    refine wpAnyH_take (i := 12) (v := ?vzr412) rfl (by kernel_rfl) (by kernel_rfl) (by kernel_rfl) (fun _ _ _ h => h) (Or.inl ⟨by rfl, ?yzr412⟩) hHeld ?rzr412
    case yzr412 => (intro wS hSw; clear hSw; go_simp; try (with_reducible rfl))
    try simp only [zzA, zzB, zzC, Act.put, zzD, zzE, zzF]
    refine wpAnyH_take (i := 13) (v := ?vzr413) rfl (by kernel_rfl) (by kernel_rfl) (by kernel_rfl) (fun _ _ _ h => h) (Or.inl ⟨by rfl, ?yzr413⟩) hHeld ?rzr413
    case yzr413 => (intro wS hSw; have q1 := cell_of_row wS g5 1 _ _ _ hSw.1; clear hSw; go_simp; try (with_reducible rfl))
    try simp only [zzA, zzB, zzC, Act.put, zzD, zzE, zzF]
    refine wpAnyH_take (i := 15) (v := ?vzr415) rfl (by kernel_rfl) (by kernel_rfl) (by kernel_rfl) (fun _ _ _ h => h) (Or.inl ⟨by rfl, ?yzr415⟩) hHeld ?rzr415
    case yzr415 => (intro wS hSw; clear hSw; go_simp; try (with_reducible rfl))
    try simp only [zzA, zzB, zzC, Act.put, zzD, zzE, zzF]
    refine wpAnyH_take (i := 16) (v := ?vzr416) rfl (by kernel_rfl) (by kernel_rfl) (by kernel_rfl) (fun _ _ _ h => h) (Or.inl ⟨by rfl, ?yzr416⟩) hHeld ?rzr416
    case yzr416 => (intro wS hSw; have q1 := cell_of_row wS g7 1 _ _ _ hSw.2.2; clear hSw; go_simp; try (with_reducible rfl))
    try simp only [zzA, zzB, zzC, Act.put, zzD, zzE, zzF]
    refine wpAnyH_take (i := 17) (v := ?vzr417) rfl (by kernel_rfl) (by kernel_rfl) (by kernel_rfl) (fun _ _ _ h => h) (Or.inl ⟨by rfl, ?yzr417⟩) hHeld ?rzr417
    case yzr417 => (intro wS hSw; clear hSw; go_simp; try (with_reducible rfl))
    try simp only [zzA, zzB, zzC, Act.put, zzD, zzE, zzF]
    refine wpAnyH_take (i := 18) (v := ?vzr418) rfl (by kernel_rfl) (by kernel_rfl) (by kernel_rfl) (fun _ _ _ h => h) (Or.inl ⟨by rfl, ?yzr418⟩) hHeld ?rzr418
    case yzr418 => (intro wS hSw; have q1 := cell_of_row wS g5 1 _ _ _ hSw.1; clear hSw; go_simp; try (with_reducible rfl))
    try simp only [zzA, zzB, zzC, Act.put, zzD, zzE, zzF]
    have C0 := Lib.hid (bl_drewN B4.out 1)
    clear k5 k6 k7
    refine wpAnyH_ready (rs := [4]) (by kernel_rfl) (by simp) (AllReadyH.cons rfl (fun K hK => ?_) AllReadyH.nil)
    go_simp
    go_at_call 99
    refine (fr_any ni ai _).mono ?_
    rintro e v1 ⟨rfl, hb1⟩
    have hS1 : (fun W' => W'.heap[g5]? = some (.cells #[.int .i64 ni, .int .i64 no] 150 (0, 0)) ∧ W'.heap[g6]? = some (.cells #[.int .i64 ai, .int .i64 ao] 150 (0, 0)) ∧ W'.heap[g7]? = some (.cells #[.int .i64 bi, .int .i64 bo] 150 (0, 0))) v1 := ⟨(hb1.block g5 (Array.getElem?_eq_some_iff.1 hHeld.1).1).trans hHeld.1, (hb1.block g6 (Array.getElem?_eq_some_iff.1 hHeld.2.1).1).trans hHeld.2.1, (hb1.block g7 (Array.getElem?_eq_some_iff.1 hHeld.2.2).1).trans hHeld.2.2⟩
    have C1 := Lib.hid (bl_trans C0.out hb1)
    clear C0
    clear hHeld hb1
    go_wp2_with fail
    refine hK.out _ _ hS1 (fun hHeld => ?_)
    clear hK K hS1
    try simp only [zzA, zzB, zzC, Act.put, zzD, zzE, zzF]
    refine wpAnyH_ready (rs := [9]) (by kernel_rfl) (by simp) (AllReadyH.cons rfl (fun K hK => ?_) AllReadyH.nil)
    go_simp
    go_at_call 99
    refine (fr_any ni bi _).mono ?_
    rintro e v2 ⟨rfl, hb1⟩
    have hS1 : (fun W' => W'.heap[g5]? = some (.cells #[.int .i64 ni, .int .i64 no] 150 (0, 0)) ∧ W'.heap[g6]? = some (.cells #[.int .i64 ai, .int .i64 ao] 150 (0, 0)) ∧ W'.heap[g7]? = some (.cells #[.int .i64 bi, .int .i64 bo] 150 (0, 0))) v2 := ⟨(hb1.block g5 (Array.getElem?_eq_some_iff.1 hHeld.1).1).trans hHeld.1, (hb1.block g6 (Array.getElem?_eq_some_iff.1 hHeld.2.1).1).trans hHeld.2.1, (hb1.block g7 (Array.getElem?_eq_some_iff.1 hHeld.2.2).1).trans hHeld.2.2⟩
    have C2 := Lib.hid (bl_trans C1.out hb1)
    clear C1
    clear hHeld hb1
    go_wp2_with fail
    refine hK.out _ _ hS1 (fun hHeld => ?_)
    clear hK K hS1
    try simp only [zzA, zzB, zzC, Act.put, zzD, zzE, zzF]
    refine wpAnyH_ready (rs := [14]) (by kernel_rfl) (by simp) (AllReadyH.cons rfl (fun K hK => ?_) AllReadyH.nil)
    go_simp
    go_at_call 99
    refine (fr_any ao no _).mono ?_
    rintro e v3 ⟨rfl, hb1⟩
    have hS1 : (fun W' => W'.heap[g5]? = some (.cells #[.int .i64 ni, .int .i64 no] 150 (0, 0)) ∧ W'.heap[g6]? = some (.cells #[.int .i64 ai, .int .i64 ao] 150 (0, 0)) ∧ W'.heap[g7]? = some (.cells #[.int .i64 bi, .int .i64 bo] 150 (0, 0))) v3 := ⟨(hb1.block g5 (Array.getElem?_eq_some_iff.1 hHeld.1).1).trans hHeld.1, (hb1.block g6 (Array.getElem?_eq_some_iff.1 hHeld.2.1).1).trans hHeld.2.1, (hb1.block g7 (Array.getElem?_eq_some_iff.1 hHeld.2.2).1).trans hHeld.2.2⟩
    have C3 := Lib.hid (bl_trans C2.out hb1)
    clear C2
    clear hHeld hb1
    go_wp2_with fail
    refine hK.out _ _ hS1 (fun hHeld => ?_)
    clear hK K hS1
    try simp only [zzA, zzB, zzC, Act.put, zzD, zzE, zzF]
    refine wpAnyH_ready (rs := [19]) (by kernel_rfl) (by simp) (AllReadyH.cons rfl (fun K hK => ?_) AllReadyH.nil)
    go_simp
    go_at_call 99
    refine (fr_any bo no _).mono ?_
    rintro e v4 ⟨rfl, hb1⟩
    have hS1 : (fun W' => W'.heap[g5]? = some (.cells #[.int .i64 ni, .int .i64 no] 150 (0, 0)) ∧ W'.heap[g6]? = some (.cells #[.int .i64 ai, .int .i64 ao] 150 (0, 0)) ∧ W'.heap[g7]? = some (.cells #[.int .i64 bi, .int .i64 bo] 150 (0, 0))) v4 := ⟨(hb1.block g5 (Array.getElem?_eq_some_iff.1 hHeld.1).1).trans hHeld.1, (hb1.block g6 (Array.getElem?_eq_some_iff.1 hHeld.2.1).1).trans hHeld.2.1, (hb1.block g7 (Array.getElem?_eq_some_iff.1 hHeld.2.2).1).trans hHeld.2.2⟩
    have C4 := Lib.hid (bl_trans C3.out hb1)
    clear C3
    clear hHeld hb1
    go_wp2_with fail
    refine hK.out _ _ hS1 (fun hHeld => ?_)
    clear hK K hS1
    try simp only [zzA, zzB, zzC, Act.put, zzD, zzE, zzF]
    refine wpAnyH_ready (rs := [20]) (by kernel_rfl) (by simp) (AllReadyH.cons rfl (fun K hK => ?_) AllReadyH.nil)
    have HN := Lib.hid (heap_alloc_new v4 (.cells #[.int .i64 ni, .int .i64 ai, .int .u64 0, .int .u64 0, .int .u64 0, .int .u64 0, .bool true, .int .i64 ni, .int .i64 bi, .int .u64 0, .int .u64 0, .int .u64 0, .int .u64 0, .bool true, .int .i64 ao, .int .i64 no, .int .u64 0, .int .u64 0, .int .u64 0, .int .u64 0, .bool true, .int .i64 bo, .int .i64 no, .int .u64 0, .int .u64 0, .int .u64 0, .int .u64 0, .bool true] 53))
    have hS1 : (fun W' => W'.heap[g5]? = some (.cells #[.int .i64 ni, .int .i64 no] 150 (0, 0)) ∧ W'.heap[g6]? = some (.cells #[.int .i64 ai, .int .i64 ao] 150 (0, 0)) ∧ W'.heap[g7]? = some (.cells #[.int .i64 bi, .int .i64 bo] 150 (0, 0))) (v4.alloc (.cells #[.int .i64 ni, .int .i64 ai, .int .u64 0, .int .u64 0, .int .u64 0, .int .u64 0, .bool true, .int .i64 ni, .int .i64 bi, .int .u64 0, .int .u64 0, .int .u64 0, .int .u64 0, .bool true, .int .i64 ao, .int .i64 no, .int .u64 0, .int .u64 0, .int .u64 0, .int .u64 0, .bool true, .int .i64 bo, .int .i64 no, .int .u64 0, .int .u64 0, .int .u64 0, .int .u64 0, .bool true] 53)) := ⟨(Below.heap_alloc _ _ g5 (Array.getElem?_eq_some_iff.1 hHeld.1).1).trans hHeld.1, (Below.heap_alloc _ _ g6 (Array.getElem?_eq_some_iff.1 hHeld.2.1).1).trans hHeld.2.1, (Below.heap_alloc _ _ g7 (Array.getElem?_eq_some_iff.1 hHeld.2.2).1).trans hHeld.2.2⟩
    have CC := Lib.hid (bl_alloc C4.out (.cells #[.int .i64 ni, .int .i64 ai, .int .u64 0, .int .u64 0, .int .u64 0, .int .u64 0, .bool true, .int .i64 ni, .int .i64 bi, .int .u64 0, .int .u64 0, .int .u64 0, .int .u64 0, .bool true, .int .i64 ao, .int .i64 no, .int .u64 0, .int .u64 0, .int .u64 0, .int .u64 0, .bool true, .int .i64 bo, .int .i64 no, .int .u64 0, .int .u64 0, .int .u64 0, .int .u64 0, .bool true] 53))
    clear hHeld C4
    go_simp
    refine hK.out _ _ hS1 (fun hHeld => ?_)
    clear hK K hS1
    try simp only [zzA, zzB, zzC, Act.put, zzD, zzE, zzF]
    refine wpAnyH_take (i := 21) (v := ?vzr421) rfl (by kernel_rfl) (by kernel_rfl) (by kernel_rfl) (fun _ _ _ h => h) (Or.inl ⟨by rfl, ?yzr421⟩) hHeld ?rzr421
    case yzr421 => (intro wS hSw; clear hSw; go_simp; try (with_reducible rfl))
    try simp only [zzA, zzB, zzC, Act.put, zzD, zzE, zzF]
    refine wpAnyH_done (by kernel_rfl) ?_ _
    clear hHeld
    go_wp2_with fail
    refine post_is HQ ⟨_, _, rfl, by rw [HE.out]; rfl, ?_, CC.out⟩
    rw [HE.out]
    exact rde_row HN.out rfl
  have e4 : (k == 4) = false := by simp [h4]
  by_cases h5 : k = 5
  · have HE := Lib.hid (show edgesE ⟨k, xa, xb, z0, z1, z2, z3⟩ ⟨ni, no⟩ ⟨ai, ao⟩ ⟨bi, bo⟩ = [freeE ni no, freeE ni ai, freeE ao ai, freeE ao no] by rw [edgesE, if_neg h2, if_neg h3, if_neg h4, if_pos h5])
    have e5 : (k == 5) = true := by simp [h5]
    clear L4 bu h2 h3 h4 h5
    go_upto_region 9 with fail
    clear q40 q50 q51 q60 q61 q70 q71
    refine wp_region_held_drew (S := (fun W' => W'.heap[g5]? = some (.cells #[.int .i64 ni, .int .i64 no] 150 (0, 0)) ∧ W'.heap[g6]? = some (.cells #[.int .i64 ai, .int .i64 ao] 150 (0, 0)) ∧ W'.heap[g7]? = some (.cells #[.int .i64 bi, .int .i64 bo] 150 (0, 0)))) (by kernel_rfl) ⟨k5, k6, k7⟩ (fun hHeld => ?_)
    try simp only [zzA, zzB, zzC, Act.put, zzD, zzE, zzF]
    refine wpAnyH_take (i := 0) (v := ?vzr50) rfl (by kernel_rfl) (by kernel_rfl) (by kernel_rfl) (fun _ _ _ h => h) (Or.inl ⟨by rfl, ?yzr50⟩) hHeld ?rzr50
    case yzr50 => (intro wS hSw; clear hSw; go_simp; try (with_reducible rfl))
    try simp only [zzA, zzB, zzC, Act.put, zzD, zzE, zzF]
    refine wpAnyH_take (i := 1) (v := ?vzr51) rfl (by kernel_rfl) (by kernel_rfl) (by kernel_rfl) (fun _ _ _ h => h) (Or.inl ⟨by rfl, ?yzr51⟩) hHeld ?rzr51
    case yzr51 => (intro wS hSw; have q1 := cell_of_row wS g5 0 _ _ _ hSw.1; clear hSw; go_simp; try (with_reducible rfl))
    try simp only [zzA, zzB, zzC, Act.put, zzD, zzE, zzF]
    refine wpAnyH_take (i := 2) (v := ?vzr52) rfl (by kernel_rfl) (by kernel_rfl) (by kernel_rfl) (fun _ _ _ h => h) (Or.inl ⟨by rfl, ?yzr52⟩) hHeld ?rzr52
    case yzr52 => (intro wS hSw; clear hSw; go_simp; try (with_reducible rfl))
    try simp only [zzA, zzB, zzC, Act.put, zzD, zzE, zzF]
    refine wpAnyH_take (i := 3) (v := ?vzr53) rfl (by kernel_rfl) (by kernel_rfl) (by kernel_rfl) (fun _ _ _ h => h) (Or.inl ⟨by rfl, ?yzr53⟩) hHeld ?rzr53
    case yzr53 => (intro wS hSw; have q1 := cell_of_row wS g5 1 _ _ _ hSw.1; clear hSw; go_simp; try (with_reducible rfl))
    try simp only [zzA, zzB, zzC, Act.put, zzD, zzE, zzF]
    refine wpAnyH_take (i := 5) (v := ?vzr55) rfl (by kernel_rfl) (by kernel_rfl) (by kernel_rfl) (fun _ _ _ h => h) (Or.inl ⟨by rfl, ?yzr55⟩) hHeld ?rzr55
    case yzr55 => (intro wS hSw; clear hSw; go_simp; try (with_reducible rfl))
    try simp only [zzA, zzB, zzC, Act.put, zzD, zzE, zzF]
    refine wpAnyH_take (i := 6) (v := ?vzr56) rfl (by kernel_rfl) (by kernel_rfl) (by kernel_rfl) (fun _ _ _ h => h) (Or.inl ⟨by rfl, ?yzr56⟩) hHeld ?rzr56
    case yzr56 => (intro wS hSw; have q1 := cell_of_row wS g5 0 _ _ _ hSw.1; clear hSw; go_simp; try (with_reducible rfl))
    try simp only [zzA, zzB, zzC, Act.put, zzD, zzE, zzF]
    refine wpAnyH_take (i := 7) (v := ?vzr57) rfl (by kernel_rfl) (by kernel_rfl) (by kernel_rfl) (fun _ _ _ h => h) (Or.inl ⟨by rfl, ?yzr57⟩) hHeld ?rzr57
    case yzr57 => (intro wS hSw; clear hSw; go_simp; try (with_reducible rfl))
    try simp only [zzA, zzB, zzC, Act.put, zzD, zzE, zzF]
    refine wpAnyH_take (i := 8) (v := ?vzr58) rfl (by kernel_rfl) (by kernel_rfl) (by kernel_rfl) (fun _ _ _ h => h) (Or.inl ⟨by rfl, ?yzr58⟩) hHeld ?rzr58
    case yzr58 => (intro wS hSw; have q1 := cell_of_row wS g6 0 _ _ _ hSw.2.1; clear hSw; go_simp; try (with_reducible rfl))
    try simp only [zzA, zzB, zzC, Act.put, zzD, zzE, zzF]
    refine wpAnyH_take (i := 10) (v := ?vzr510) rfl (by kernel_rfl) (by kernel_rfl) (by kernel_rfl) (fun _ _ _ h => h) (Or.inl ⟨by rfl, ?yzr510⟩) hHeld ?rzr510
    case yzr510 => (intro wS hSw; clear hSw; go_simp; try (with_reducible rfl))
    try simp only [zzA, zzB, zzC, Act.put, zzD, zzE, zzF]
    refine wpAnyH_take (i := 11) (v := ?vzr511) rfl (by kernel_rfl) (by kernel_rfl) (by kernel_rfl) (fun _ _ _ h => h) (Or.inl ⟨by rfl, ?yzr511⟩) hHeld ?rzr511
    case yzr511 => (intro wS hSw; have q1 := cell_of_row wS g6 1 _ _ _ hSw.2.1; clear hSw; go_simp; try (with_reducible rfl))
    try simp only [zzA, zzB, zzC, Act.put, zzD, zzE, zzF]
    refine wpAnyH_take (i := 12) (v := ?vzr512) rfl (by kernel_rfl) (by kernel_rfl) (by kernel_rfl) (fun _ _ _ h => h) (Or.inl ⟨by rfl, ?yzr512⟩) hHeld ?rzr512
    case yzr512 => (intro wS hSw; clear hSw; go_simp; try (with_reducible rfl))
    try simp only [zzA, zzB, zzC, Act.put, zzD, zzE, zzF]
    refine wpAnyH_take (i := 13) (v := ?vzr513) rfl (by kernel_rfl) (by kernel_rfl) (by kernel_rfl) (fun _ _ _ h => h) (Or.inl ⟨by rfl, ?yzr513⟩) hHeld ?rzr513
    case yzr513 => (intro wS hSw; have q1 := cell_of_row wS g6 0 _ _ _ hSw.2.1; clear hSw; go_simp; try (with_reducible rfl))
    try simp only [zzA, zzB, zzC, Act.put, zzD, zzE, zzF]
    refine wpAnyH_take (i := 15) (v := ?vzr515) rfl (by kernel_rfl) (by kernel_rfl) (by kernel_rfl) (fun _ _ _ h => h) (Or.inl ⟨by rfl, ?yzr515⟩) hHeld ?rzr515
    case yzr515 => (intro wS hSw; clear hSw; go_simp; try (with_reducible rfl))
    try simp only [zzA, zzB, zzC, Act.put, zzD, zzE, zzF]
    refine wpAnyH_take (i := 16) (v := ?vzr516) rfl (by kernel_rfl) (by kernel_rfl) (by kernel_rfl) (fun _ _ _ h => h) (Or.inl ⟨by rfl, ?yzr516⟩) hHeld ?rzr516
    case yzr516 => (intro wS hSw; have q1 := cell_of_row wS g6 1 _ _ _ hSw.2.1; clear hSw; go_simp; try (with_reducible rfl))
    try simp only [zzA, zzB, zzC, Act.put, zzD, zzE, zzF]
    refine wpAnyH_take (i := 17) (v := ?vzr517) rfl (by kernel_rfl) (by kernel_rfl) (by kernel_rfl) (fun _ _ _ h => h) (Or.inl ⟨by rfl, ?yzr517⟩) hHeld ?rzr517
    case yzr517 => (intro wS hSw; clear hSw; go_simp; try (with_reducible rfl))
    try simp only [zzA, zzB, zzC, Act.put, zzD, zzE, zzF]
    refine wpAnyH_take (i := 18) (v := ?vzr518) rfl (by kernel_rfl) (by kernel_rfl) (by kernel_rfl) (fun _ _ _ h => h) (Or.inl ⟨by rfl, ?yzr518⟩) hHeld ?rzr518
    case yzr518 => (intro wS hSw; have q1 := cell_of_row wS g5 1 _ _ _ hSw.1; clear hSw; go_simp; try (with_reducible rfl))
    try simp only [zzA, zzB, zzC, Act.put, zzD, zzE, zzF]
    have C0 := Lib.hid (bl_drewN B4.out 1)
    clear k5 k6 k7
    refine wpAnyH_ready (rs := [4]) (by kernel_rfl) (by simp) (AllReadyH.cons rfl (fun K hK => ?_) AllReadyH.nil)
    go_simp
    go_at_call 99
    refine (fr_any ni no _).mono ?_
    rintro e v1 ⟨rfl, hb1⟩
    have hS1 : (fun W' => W'.heap[g5]? = some (.cells #[.int .i64 ni, .int .i64 no] 150 (0, 0)) ∧ W'.heap[g6]? = some (.cells #[.int .i64 ai, .int .i64 ao] 150 (0, 0)) ∧ W'.heap[g7]? = some (.cells #[.int .i64 bi, .int .i64 bo] 150 (0, 0))) v1 := ⟨(hb1.block g5 (Array.getElem?_eq_some_iff.1 hHeld.1).1).trans hHeld.1, (hb1.block g6 (Array.getElem?_eq_some_iff.1 hHeld.2.1).1).trans hHeld.2.1, (hb1.block g7 (Array.getElem?_eq_some_iff.1 hHeld.2.2).1).trans hHeld.2.2⟩
    have C1 := Lib.hid (bl_trans C0.out hb1)
    clear C0
    clear hHeld hb1
    go_wp2_with fail
    refine hK.out _ _ hS1 (fun hHeld => ?_)
    clear hK K hS1
    try simp only [zzA, zzB, zzC, Act.put, zzD, zzE, zzF]
    refine wpAnyH_ready (rs := [9]) (by kernel_rfl) (by simp) (AllReadyH.cons rfl (fun K hK => ?_) AllReadyH.nil)
    go_simp
    go_at_call 99
    refine (fr_any ni ai _).mono ?_
    rintro e v2 ⟨rfl, hb1⟩
    have hS1 : (fun W' => W'.heap[g5]? = some (.cells #[.int .i64 ni, .int .i64 no] 150 (0, 0)) ∧ W'.heap[g6]? = some (.cells #[.int .i64 ai, .int .i64 ao] 150 (0, 0)) ∧ W'.heap[g7]? = some (.cells #[.int .i64 bi, .int .i64 bo] 150 (0, 0))) v2 := ⟨(hb1.block g5 (Array.getElem?_eq_some_iff.1 hHeld.1).1).trans hHeld.1, (hb1.block g6 (Array.getElem?_eq_some_iff.1 hHeld.2.1).1).trans hHeld.2.1, (hb1.block g7 (Array.getElem?_eq_some_iff.1 hHeld.2.2).1).trans hHeld.2.2⟩
    have C2 := Lib.hid (bl_trans C1.out hb1)
    clear C1
    clear hHeld hb1
    go_wp2_with fail
    refine hK.out _ _ hS1 (fun hHeld => ?_)
    clear hK K hS1
    try simp only [zzA, zzB, zzC, Act.put, zzD, zzE, zzF]
    refine wpAnyH_ready (rs := [14]) (by kernel_rfl) (by simp) (AllReadyH.cons rfl (fun K hK => ?_) AllReadyH.nil)
    go_simp
    go_at_call 99
    refine (fr_any ao ai _).mono ?_
    rintro e v3 ⟨rfl, hb1⟩
    have hS1 : (fun W' => W'.heap[g5]? = some (.cells #[.int .i64 ni, .int .i64 no] 150 (0, 0)) ∧ W'.heap[g6]? = some (.cells #[.int .i64 ai, .int .i64 ao] 150 (0, 0)) ∧ W'.heap[g7]? = some (.cells #[.int .i64 bi, .int .i64 bo] 150 (0, 0))) v3 := ⟨(hb1.block g5 (Array.getElem?_eq_some_iff.1 hHeld.1).1).trans hHeld.1, (hb1.block g6 (Array.getElem?_eq_some_iff.1 hHeld.2.1).1).trans hHeld.2.1, (hb1.block g7 (Array.getElem?_eq_some_iff.1 hHeld.2.2).1).trans hHeld.2.2⟩
    have C3 := Lib.hid (bl_trans C2.out hb1)
    clear C2
    clear hHeld hb1
    go_wp2_with fail
    refine hK.out _ _ hS1 (fun hHeld => ?_)
    clear hK K hS1
    try simp only [zzA, zzB, zzC, Act.put, zzD, zzE, zzF]
    refine wpAnyH_ready (rs := [19]) (by kernel_rfl) (by simp) (AllReadyH.cons rfl (fun K hK => ?_) AllReadyH.nil)
    go_simp
    go_at_call 99
    refine (fr_any ao no _).mono ?_
    rintro e v4 ⟨rfl, hb1⟩
    have hS1 : (fun W' => W'.heap[g5]? = some (.cells #[.int .i64 ni, .int .i64 no] 150 (0, 0)) ∧ W'.heap[g6]? = some (.cells #[.int .i64 ai, .int .i64 ao] 150 (0, 0)) ∧ W'.heap[g7]? = some (.cells #[.int .i64 bi, .int .i64 bo] 150 (0, 0))) v4 := ⟨(hb1.block g5 (Array.getElem?_eq_some_iff.1 hHeld.1).1).trans hHeld.1, (hb1.block g6 (Array.getElem?_eq_some_iff.1 hHeld.2.1).1).trans hHeld.2.1, (hb1.block g7 (Array.getElem?_eq_some_iff.1 hHeld.2.2).1).trans hHeld.2.2⟩
    have C4 := Lib.hid (bl_trans C3.out hb1)
    clear C3
    clear hHeld hb1
    go_wp2_with fail
    refine hK.out _ _ hS1 (fun hHeld => ?_)
    clear hK K hS1
    try simp only [zzA, zzB, zzC, Act.put, zzD, zzE, zzF]
    refine wpAnyH_ready (rs := [20]) (by kernel_rfl) (by simp) (AllReadyH.cons rfl (fun K hK => ?_) AllReadyH.nil)
    have HN := Lib.hid (heap_alloc_new v4 (.cells #[.int .i64 ni, .int .i64 no, .int .u64 0, .int .u64 0, .int .u64 0, .int .u64 0, .bool true, .int .i64 ni, .int .i64 ai, .int .u64 0, .int .u64 0, .int .u64 0, .int .u64 0, .bool true, .int .i64 ao, .int .i64 ai, .int .u64 0, .int .u64 0, .int .u64 0, .int .u64 0, .bool true, .int .i64 ao, .int .i64 no, .int .u64 0, .int .u64 0, .int .u64 0, .int .u64 0, .bool true] 53))
    have hS1 : (fun W' => W'.heap[g5]? = some (.cells #[.int .i64 ni, .int .i64 no] 150 (0, 0)) ∧ W'.heap[g6]? = some (.cells #[.int .i64 ai, .int .i64 ao] 150 (0, 0)) ∧ W'.heap[g7]? = some (.cells #[.int .i64 bi, .int .i64 bo] 150 (0, 0))) (v4.alloc (.cells #[.int .i64 ni, .int .i64 no, .int .u64 0, .int .u64 0, .int .u64 0, .int .u64 0, .bool true, .int .i64 ni, .int .i64 ai, .int .u64 0, .int .u64 0, .int .u64 0, .int .u64 0, .bool true, .int .i64 ao, .int .i64 ai, .int .u64 0, .int .u64 0, .int .u64 0, .int .u64 0, .bool true, .int .i64 ao, .int .i64 no, .int .u64 0, .int .u64 0, .int .u64 0, .int .u64 0, .bool true] 53)) := ⟨(Below.heap_alloc _ _ g5 (Array.getElem?_eq_some_iff.1 hHeld.1).1).trans hHeld.1, (Below.heap_alloc _ _ g6 (Array.getElem?_eq_some_iff.1 hHeld.2.1).1).trans hHeld.2.1, (Below.heap_alloc _ _ g7 (Array.getElem?_eq_some_iff.1 hHeld.2.2).1).trans hHeld.2.2⟩
    have CC := Lib.hid (bl_alloc C4.out (.cells #[.int .i64 ni, .int .i64 no, .int .u64 0, .int .u64 0, .int .u64 0, .int .u64 0, .bool true, .int .i64 ni, .int .i64 ai, .int .u64 0, .int .u64 0, .int .u64 0, .int .u64 0, .bool true, .int .i64 ao, .int .i64 ai, .int .u64 0, .int .u64 0, .int .u64 0, .int .u64 0, .bool true, .int .i64 ao, .int .i64 no, .int .u64 0, .int .u64 0, .int .u64 0, .int .u64 0, .bool true] 53))
    clear hHeld C4
    go_simp
    refine hK.out _ _ hS1 (fun hHeld => ?_)
    clear hK K hS1
    try simp only [zzA, zzB, zzC, Act.put, zzD, zzE, zzF]
    refine wpAnyH_take (i := 21) (v := ?vzr521) rfl (by kernel_rfl) (by kernel_rfl) (by kernel_rfl) (fun _ _ _ h => h) (Or.inl ⟨by rfl, ?yzr521⟩) hHeld ?rzr521
    case yzr521 => (intro wS hSw; clear hSw; go_simp; try (with_reducible rfl))
    try simp only [zzA, zzB, zzC, Act.put, zzD, zzE, zzF]
    refine wpAnyH_done (by kernel_rfl) ?_ _
    clear hHeld
    go_wp2_with fail
    refine post_is HQ ⟨_, _, rfl, by rw [HE.out]; rfl, ?_, CC.out⟩
    rw [HE.out]
    exact rde_row HN.out rfl
  have e5 : (k == 5) = false := by simp [h5]
  by_cases h6 : k = 6
  · have HE := Lib.hid (show edgesE ⟨k, xa, xb, z0, z1, z2, z3⟩ ⟨ni, no⟩ ⟨ai, ao⟩ ⟨bi, bo⟩ = [freeE ni ai, freeE ao ai, freeE ao no] by rw [edgesE, if_neg h2, if_neg h3, if_neg h4, if_neg h5, if_pos h6])
    have e6 : (k == 6) = true := by simp [h6]
    clear L4 bu h2 h3 h4 h5 h6
    go_upto_region 11 with fail
    clear q40 q50 q51 q60 q61 q70 q71
    refine wp_region_held_drew (S := (fun W' => W'.heap[g5]? = some (.cells #[.int .i64 ni, .int .i64 no] 150 (0, 0)) ∧ W'.heap[g6]? = some (.cells #[.int .i64 ai, .int .i64 ao] 150 (0, 0)) ∧ W'.heap[g7]? = some (.cells #[.int .i64 bi, .int .i64 bo] 150 (0, 0)))) (by kernel_rfl) ⟨k5, k6, k7⟩ (fun hHeld => ?_)
    try simp only [zzA, zzB, zzC, Act.put, zzD, zzE, zzF]
    refine wpAnyH_take (i := 0) (v := ?vzr60) rfl (by kernel_rfl) (by kernel_rfl) (by kernel_rfl) (fun _ _ _ h => h) (Or.inl ⟨by rfl, ?yzr60⟩) hHeld ?rzr60
    case yzr60 => (intro wS hSw; clear hSw; go_simp; try (with_reducible rfl))
    try simp only [zzA, zzB, zzC, Act.put, zzD, zzE, zzF]
    refine wpAnyH_take (i := 1) (v := ?vzr61) rfl (by kernel_rfl) (by kernel_rfl) (by kernel_rfl) (fun _ _ _ h => h) (Or.inl ⟨by rfl, ?yzr61⟩) hHeld ?rzr61
    case yzr61 => (intro wS hSw; have q1 := cell_of_row wS g5 0 _ _ _ hSw.1; clear hSw; go_simp; try (with_reducible rfl))
    try simp only [zzA, zzB, zzC, Act.put, zzD, zzE, zzF]
    refine wpAnyH_take (i := 2) (v := ?vzr62) rfl (by kernel_rfl) (by kernel_rfl) (by kernel_rfl) (fun _ _ _ h => h) (Or.inl ⟨by rfl, ?yzr62⟩) hHeld ?rzr62
    case yzr62 => (intro wS hSw; clear hSw; go_simp; try (with_reducible rfl))
    try simp only [zzA, zzB, zzC, Act.put, zzD, zzE, zzF]
    refine wpAnyH_take (i := 3) (v := ?vzr63) rfl (by kernel_rfl) (by kernel_rfl) (by kernel_rfl) (fun _ _ _ h => h) (Or.inl ⟨by rfl, ?yzr63⟩) hHeld ?rzr63
    case yzr63 => (intro wS hSw; have q1 := cell_of_row wS g6 0 _ _ _ hSw.2.1; clear hSw; go_simp; try (with_reducible rfl))
    try simp only [zzA, zzB, zzC, Act.put, zzD, zzE, zzF]
    refine wpAnyH_take (i := 5) (v := ?vzr65) rfl (by kernel_rfl) (by kernel_rfl) (by kernel_rfl) (fun _ _ _ h => h) (Or.inl ⟨by rfl, ?yzr65⟩) hHeld ?rzr65
    case yzr65 => (intro wS hSw; clear hSw; go_simp; try (with_reducible rfl))
    try simp only [zzA, zzB, zzC, Act.put, zzD, zzE, zzF]
    refine wpAnyH_take (i := 6) (v := ?vzr66) rfl (by kernel_rfl) (by kernel_rfl) (by kernel_rfl) (fun _ _ _ h => h) (Or.inl ⟨by rfl, ?yzr66⟩) hHeld ?rzr66
    case yzr66 => (intro wS hSw; have q1 := cell_of_row wS g6 1 _ _ _ hSw.2.1; clear hSw; go_simp; try (with_reducible rfl))
    try simp only [zzA, zzB, zzC, Act.put, zzD, zzE, zzF]
    refine wpAnyH_take (i := 7) (v := ?vzr67) rfl (by kernel_rfl) (by kernel_rfl) (by kernel_rfl) (fun _ _ _ h => h) (Or.inl ⟨by rfl, ?yzr67⟩) hHeld ?rzr67
    case yzr67 => (intro wS hSw; clear hSw; go_simp; try (with_reducible rfl))
    try simp only [zzA, zzB, zzC, Act.put, zzD, zzE, zzF]
    refine wpAnyH_take (i := 8) (v := ?vzr68) rfl (by kernel_rfl) (by kernel_rfl) (by kernel_rfl) (fun _ _ _ h => h) (Or.inl ⟨by rfl, ?yzr68⟩) hHeld ?rzr68
    case yzr68 => (intro wS hSw; have q1 := cell_of_row wS g6 0 _ _ _ hSw.2.1; clear hSw; go_simp; try (with_reducible rfl))
    try simp only [zzA, zzB, zzC, Act.put, zzD, zzE, zzF]
    refine wpAnyH_take (i := 10) (v := ?vzr610) rfl (by kernel_rfl) (by kernel_rfl) (by kernel_rfl) (fun _ _ _ h => h) (Or.inl ⟨by rfl, ?yzr610⟩) hHeld ?rzr610
    case yzr610 => (intro wS hSw; clear hSw; go_simp; try (with_reducible rfl))
    try simp only [zzA, zzB, zzC, Act.put, zzD, zzE, zzF]
    refine wpAnyH_take (i := 11) (v := ?vzr611) rfl (by kernel_rfl) (by kernel_rfl) (by kernel_rfl) (fun _ _ _ h => h) (Or.inl ⟨by rfl, ?yzr611⟩) hHeld ?rzr611
    case yzr611 => (intro wS hSw; have q1 := cell_of_row wS g6 1 _ _ _ hSw.2.1; clear hSw; go_simp; try (with_reducible rfl))
    try simp only [zzA, zzB, zzC, Act.put, zzD, zzE, zzF]
    refine wpAnyH_take (i := 12) (v := ?vzr612) rfl (by kernel_rfl) (by kernel_rfl) (by kernel_rfl) (fun _ _ _ h => h) (Or.inl ⟨by rfl, ?yzr612⟩) hHeld ?rzr612
    case yzr612 => (intro wS hSw; clear hSw; go_simp; try (with_reducible rfl))
    try simp only [zzA, zzB, zzC, Act.put, zzD, zzE, zzF]
    refine wpAnyH_take (i := 13) (v := ?vzr613) rfl (by kernel_rfl) (by kernel_rfl) (by kernel_rfl) (fun _ _ _ h => h) (Or.inl ⟨by rfl, ?yzr613⟩) hHeld ?rzr613
    case yzr613 => (intro wS hSw; have q1 := cell_of_row wS g5 1 _ _ _ hSw.1; clear hSw; go_simp; try (with_reducible rfl))
    try simp only [zzA, zzB, zzC, Act.put, zzD, zzE, zzF]
    have C0 := Lib.hid (bl_drewN B4.out 1)
    clear k5 k6 k7
    refine wpAnyH_ready (rs := [4]) (by kernel_rfl) (by simp) (AllReadyH.cons rfl (fun K hK => ?_) AllReadyH.nil)
    go_simp
    go_at_call 99
    refine (fr_any ni ai _).mono ?_
    rintro e v1 ⟨rfl, hb1⟩
    have hS1 : (fun W' => W'.heap[g5]? = some (.cells #[.int .i64 ni, .int .i64 no] 150 (0, 0)) ∧ W'.heap[g6]? = some (.cells #[.int .i64 ai, .int .i64 ao] 150 (0, 0)) ∧ W'.heap[g7]? = some (.cells #[.int .i64 bi, .int .i64 bo] 150 (0, 0))) v1 := ⟨(hb1.block g5 (Array.getElem?_eq_some_iff.1 hHeld.1).1).trans hHeld.1, (hb1.block g6 (Array.getElem?_eq_some_iff.1 hHeld.2.1).1).trans hHeld.2.1, (hb1.block g7 (Array.getElem?_eq_some_iff.1 hHeld.2.2).1).trans hHeld.2.2⟩
    have C1 := Lib.hid (bl_trans C0.out hb1)
    clear C0
    clear hHeld hb1
    go_wp2_with fail
    refine hK.out _ _ hS1 (fun hHeld => ?_)
    clear hK K hS1
    try simp only [zzA, zzB, zzC, Act.put, zzD, zzE, zzF]
    refine wpAnyH_ready (rs := [9]) (by kernel_rfl) (by simp) (AllReadyH.cons rfl (fun K hK => ?_) AllReadyH.nil)
    go_simp
    go_at_call 99
    refine (fr_any ao ai _).mono ?_
    rintro e v2 ⟨rfl, hb1⟩
    have hS1 : (fun W' => W'.heap[g5]? = some (.cells #[.int .i64 ni, .int .i64 no] 150 (0, 0)) ∧ W'.heap[g6]? = some (.cells #[.int .i64 ai, .int .i64 ao] 150 (0, 0)) ∧ W'.heap[g7]? = some (.cells #[.int .i64 bi, .int .i64 bo] 150 (0, 0))) v2 := ⟨(hb1.block g5 (Array.getElem?_eq_some_iff.1 hHeld.1).1).trans hHeld.1, (hb1.block g6 (Array.getElem?_eq_some_iff.1 hHeld.2.1).1).trans hHeld.2.1, (hb1.block g7 (Array.getElem?_eq_some_iff.1 hHeld.2.2).1).trans hHeld.2.2⟩
    have C2 := Lib.hid (bl_trans C1.out hb1)
    clear C1
    clear hHeld hb1
    go_wp2_with fail
    refine hK.out _ _ hS1 (fun hHeld => ?_)
    clear hK K hS1
    try simp only [zzA, zzB, zzC, Act.put, zzD, zzE, zzF]
    refine wpAnyH_ready (rs := [14]) (by kernel_rfl) (by simp) (AllReadyH.cons rfl (fun K hK => ?_) AllReadyH.nil)
    go_simp
    go_at_call 99
    refine (fr_any ao no _).mono ?_
    rintro e v3 ⟨rfl, hb1⟩
    have hS1 : (fun W' => W'.heap[g5]? = some (.cells #[.int .i64 ni, .int .i64 no] 150 (0, 0)) ∧ W'.heap[g6]? = some (.cells #[.int .i64 ai, .int .i64 ao] 150 (0, 0)) ∧ W'.heap[g7]? = some (.cells #[.int .i64 bi, .int .i64 bo] 150 (0, 0))) v3 := ⟨(hb1.block g5 (Array.getElem?_eq_some_iff.1 hHeld.1).1).trans hHeld.1, (hb1.block g6 (Array.getElem?_eq_some_iff.1 hHeld.2.1).1).trans hHeld.2.1, (hb1.block g7 (Array.getElem?_eq_some_iff.1 hHeld.2.2).1).trans hHeld.2.2⟩
    have C3 := Lib.hid (bl_trans C2.out hb1)
    clear C2
    clear hHeld hb1
    go_wp2_with fail
    refine hK.out _ _ hS1 (fun hHeld => ?_)
    clear hK K hS1
    try simp only [zzA, zzB, zzC, Act.put, zzD, zzE, zzF]
    refine wpAnyH_ready (rs := [15]) (by kernel_rfl) (by simp) (AllReadyH.cons rfl (fun K hK => ?_) AllReadyH.nil)
    have HN := Lib.hid (heap_alloc_new v3 (.cells #[.int .i64 ni, .int .i64 ai, .int .u64 0, .int .u64 0, .int .u64 0, .int .u64 0, .bool true, .int .i64 ao, .int .i64 ai, .int .u64 0, .int .u64 0, .int .u64 0, .int .u64 0, .bool true, .int .i64 ao, .int .i64 no, .int .u64 0, .int .u64 0, .int .u64 0, .int .u64 0, .bool true] 53))
    have hS1 : (fun W' => W'.heap[g5]? = some (.cells #[.int .i64 ni, .int .i64 no] 150 (0, 0)) ∧ W'.heap[g6]? = some (.cells #[.int .i64 ai, .int .i64 ao] 150 (0, 0)) ∧ W'.heap[g7]? = some (.cells #[.int .i64 bi, .int .i64 bo] 150 (0, 0))) (v3.alloc (.cells #[.int .i64 ni, .int .i64 ai, .int .u64 0, .int .u64 0, .int .u64 0, .int .u64 0, .bool true, .int .i64 ao, .int .i64 ai, .int .u64 0, .int .u64 0, .int .u64 0, .int .u64 0, .bool true, .int .i64 ao, .int .i64 no, .int .u64 0, .int .u64 0, .int .u64 0, .int .u64 0, .bool true] 53)) := ⟨(Below.heap_alloc _ _ g5 (Array.getElem?_eq_some_iff.1 hHeld.1).1).trans hHeld.1, (Below.heap_alloc _ _ g6 (Array.getElem?_eq_some_iff.1 hHeld.2.1).1).trans hHeld.2.1, (Below.heap_alloc _ _ g7 (Array.getElem?_eq_some_iff.1 hHeld.2.2).1).trans hHeld.2.2⟩
    have CC := Lib.hid (bl_alloc C3.out (.cells #[.int .i64 ni, .int .i64 ai, .int .u64 0, .int .u64 0, .int .u64 0, .int .u64 0, .bool true, .int .i64 ao, .int .i64 ai, .int .u64 0, .int .u64 0, .int .u64 0, .int .u64 0, .bool true, .int .i64 ao, .int .i64 no, .int .u64 0, .int .u64 0, .int .u64 0, .int .u64 0, .bool true] 53))
    clear hHeld C3
    go_simp
    refine hK.out _ _ hS1 (fun hHeld => ?_)
    clear hK K hS1
    try simp only [zzA, zzB, zzC, Act.put, zzD, zzE, zzF]
    refine wpAnyH_take (i := 16) (v := ?vzr616) rfl (by kernel_rfl) (by kernel_rfl) (by kernel_rfl) (fun _ _ _ h => h) (Or.inl ⟨by rfl, ?yzr616⟩) hHeld ?rzr616
    case yzr616 => (intro wS hSw; clear hSw; go_simp; try (with_reducible rfl))
    try simp only [zzA, zzB, zzC, Act.put, zzD, zzE, zzF]
    refine wpAnyH_done (by kernel_rfl) ?_ _
    clear hHeld
    go_wp2_with fail
    refine post_is HQ ⟨_, _, rfl, by rw [HE.out]; rfl, ?_, CC.out⟩
    rw [HE.out]
    exact rde_row HN.out rfl
  have e6 : (k == 6) = false := by simp [h6]
  have HE := Lib.hid (show edgesE ⟨k, xa, xb, z0, z1, z2, z3⟩ ⟨ni, no⟩ ⟨ai, ao⟩ ⟨bi, bo⟩ = [freeE ni no] by rw [edgesE, if_neg h2, if_neg h3, if_neg h4, if_neg h5, if_neg h6])
  clear L4 bu h2 h3 h4 h5 h6 k5 k6 k7
  go_wp2_with fail
  refine (fr_any ni no _).mono ?_
  rintro e v1 ⟨rfl, hb1⟩
  have C1 := Lib.hid (bl_trans B4.out hb1)
  clear hb1
  go_wp2_with fail
  refine post_is HQ ⟨_, _, rfl, by rw [HE.out]; rfl, ?_, bl_alloc C1.out _⟩
  rw [HE.out]
  exact rde_row (heap_alloc_new _ _) rfl
end Go.Proofs.YtcgfogdfcdndgaaGreatDoor

/- A net while a pattern is put behind it. -/
set_option linter.unusedVariables false
set_option linter.unusedSimpArgs false
namespace Go.Proofs.YtcgfogdfcdndgaaGreatDoor
open Go.RowKit
attribute [local go_sem] Oper.semAt_some

def OwnE (w : World) (base : Nat) (v : Value) (l : List Ed) : Prop := w.ownsRow base 53 7 v l.length (cellsEs l)
theorem OwnE.nil (w : World) (base : Nat) : OwnE w base (.slice none 0 0) [] := World.ownsRow_nil _ _ _ _
theorem OwnE.form {w : World} {base : Nat} {v : Value} {l : List Ed} (h : OwnE w base v l) :
    ∃ A n c, v = .slice A n c ∧ Hid (l.length = n) ∧ n ≤ c ∧ c ≤ maxLen ∧ RdE w A l := by
  rcases h.2 with ⟨rfl, hn⟩ | ⟨g, cap, cur, rfl, _, hg, hnc, hcm, hcs, ht⟩
  · exact ⟨none, 0, 0, rfl, hn, Nat.le_refl _, by simp [maxLen], fun i hi => by omega⟩
  · refine ⟨some ⟨g, 0, none⟩, _, cap, rfl, rfl, hnc, hcm, fun i hi => ⟨_, rfl, fun j u hu => ?_⟩⟩
    have h2 := World.ownsRow.cells h (g := g) rfl (i * 7 + j) u (cellsEs_get l i hi j u hu)
    rw [addr_mk, Nat.zero_add] at h2
    rw [addr_mk, addr_mk, Nat.zero_add]
    exact h2
theorem own_ne {w : World} {base base' : Nat} {v u : Value} {l : List Ed} {m : List Nat} (h : OwnE w base v l) (h' : OwnI w base' u m) : ∀ i, v.ownBlock = some i → u.ownBlock ≠ some i := fun i e e' => by
  rcases h.2 with ⟨rfl, _⟩ | ⟨g, cap, cur, rfl, _, hg, _⟩
  · simp [Value.ownBlock] at e
  · obtain rfl : g = i := Option.some.inj e
    rcases h'.2 with ⟨rfl, _⟩ | ⟨g', cap', cur', rfl, _, hg', _⟩
    · simp [Value.ownBlock] at e'
    · obtain rfl : g' = g := Option.some.inj e'
      rw [hg] at hg'
      have := Option.some.inj hg'
      injection this with _ h1 _
      exact absurd h1 (by decide)
def nodesE (S : Int) : List RN → Nat → List Ed
  | [], _ => []
  | x :: l, i => edgesE x (partE S i) (partE S x.a) (partE S x.b) ++ nodesE S l (i + 1)
theorem nodes_next (S : Int) : ∀ (L : List RN) (k i : Nat) (hk : k < L.length), nodesE S (L.take (k + 1)) i = nodesE S (L.take k) i ++ edgesE L[k] (partE S ((i + k : Nat) : Int)) (partE S L[k].a) (partE S L[k].b)
  | x :: l, 0, i, _ => by simp [nodesE]
  | x :: l, k + 1, i, h => by
    rw [List.take_succ_cons, nodesE, nodes_next S l k (i + 1) (by simpa using h), List.take_succ_cons, nodesE, List.append_assoc, show i + 1 + k = i + (k + 1) by omega]
    rfl
theorem edges_len (x : RN) (n a b : Pt) : 1 ≤ (edgesE x n a b).length ∧ (edgesE x n a b).length ≤ 4 := by
  unfold edgesE
  repeat' split
  all_goals exact ⟨by simp, by simp⟩
theorem nodes_len (S : Int) : ∀ (L : List RN) (i : Nat), (nodesE S L i).length ≤ 4 * L.length
  | [], _ => Nat.zero_le _
  | x :: l, i => by
    have h1 := (edges_len x (partE S i) (partE S x.a) (partE S x.b)).2
    have h2 := nodes_len S l (i + 1)
    rw [nodesE, List.length_append, List.length_cons]
    omega
theorem edge_append {w : World} {base : Nat} {v : Value} {l : List Ed} {n : Nat} (hn : l.length = n) (x : List Ed) {m : Nat} (hm : x.length = m) (h : w.ownsRow base 53 7 v (n + m) (cellsEs l ++ cellsEs x)) : OwnE w base v (l ++ x) := by
  subst hn hm
  unfold OwnE
  rw [List.length_append, show cellsEs (l ++ x) = cellsEs l ++ cellsEs x from by unfold cellsEs; simp]
  exact h
/-- The boxes of a call of withPattern, the net in them, and what is as it was. -/
structure Pat (W0 W : World) (v0 : Value) (S : Nat) (X : List Nat) (vx v : Value) (E : List Ed) (wr : World) : Prop where
  net : wr.heap[W.heap.size]? = some (.cells #[.int .i64 (S : Int), v, vx] 25 (0, 0))
  res : wr.heap[W.heap.size + 1]? = some (.cells #[.int .i64 0, .slice none 0 0, .slice none 0 0] 25 (0, 0))
  ed : OwnE wr W0.heap.size v E
  en : OwnI wr W0.heap.size vx X
  nx : ∀ i, vx.ownBlock = some i → i < W.heap.size
  nv : ∀ i, v.ownBlock = some i → v0.ownBlock = some i ∨ W.heap.size + 2 ≤ i
  n0 : ∀ i, v0.ownBlock = some i → i < W.heap.size
  keep : ∀ i, i < W.heap.size → v0.ownBlock ≠ some i → wr.heap[i]? = W.heap[i]?
  low : Below W0.heap.size W0 wr
  ge : W0.heap.size ≤ W.heap.size
section
variable {W0 W wr w1 : World} {v0 vx v : Value} {S : Nat} {X : List Nat} {E : List Ed}
theorem Pat.lt (h : Pat W0 W v0 S X vx v E wr) : W.heap.size + 1 < wr.heap.size := (Array.getElem?_eq_some_iff.1 h.res).1
theorem Pat.then (h : Pat W0 W v0 S X vx v E wr) (hb : Below wr.heap.size wr w1) : Pat W0 W v0 S X vx v E w1 := by
  have hl := h.lt
  exact ⟨(hb.block _ (by omega)).trans h.net, (hb.block _ (by omega)).trans h.res, World.ownsRow.kept h.ed (grown_of_below hb none) (by cases v.ownBlock <;> simp), h.en.below hb, h.nx, h.nv, h.n0, fun i hi hne => (hb.block i (by omega)).trans (h.keep i hi hne), bl_trans h.low hb, h.ge⟩
theorem Pat.net1 (h : Pat W0 W v0 S X vx v E wr) (hg : wr.grownBy w1 v.ownBlock) : w1.heap[W.heap.size]? = some (.cells #[.int .i64 (S : Int), v, vx] 25 (0, 0)) := by
  have hl := h.lt
  refine (hg.block _ (by omega) (fun e => ?_)).trans h.net
  rcases h.nv _ e.symm with e1 | e1
  · have := h.n0 _ e1
    omega
  · omega
theorem Pat.put (h : Pat W0 W v0 S X vx v E wr) {q n c : Nat} {E1 : List Ed} (ho : OwnE w1 W0.heap.size (.slice (some ⟨q, 0, none⟩) n c) E1) (hg : wr.grownBy w1 v.ownBlock) (hat : v.ownBlock = some q ∨ q = wr.heap.size) : Pat W0 W v0 S X vx (.slice (some ⟨q, 0, none⟩) n c) E1 (w1.setCell ⟨W.heap.size, 1, none⟩ (.slice (some ⟨q, 0, none⟩) n c)) := by
  have hl := h.lt
  have hvx := own_ne h.ed h.en
  have hq : ∀ i, v.ownBlock = some i → i ≠ W.heap.size ∧ i ≠ W.heap.size + 1 := fun i e => by
    rcases h.nv i e with e1 | e1
    · have := h.n0 i e1
      omega
    · omega
  have hqq : q ≠ W.heap.size ∧ q ≠ W.heap.size + 1 := by
    rcases hat with e | e
    · exact hq q e
    · omega
  have k1 : ∀ i, i < wr.heap.size → v.ownBlock ≠ some i → w1.heap[i]? = wr.heap[i]? := fun i hi hne => hg.block i hi (fun e => hne e.symm)
  have k2 : ∀ i, i ≠ W.heap.size → (w1.setCell ⟨W.heap.size, 1, none⟩ (.slice (some ⟨q, 0, none⟩) n c)).heap[i]? = w1.heap[i]? := fun i hi => Below.heap_setCell _ _ _ _ (fun e => hi e)
  have kv : ∀ j, (∀ i, v.ownBlock = some i → i ≠ j) → v.ownBlock ≠ some j := fun j hj e => hj j e rfl
  refine ⟨heap_setCell_same w1 W.heap.size 1 _ _ _ ((k1 _ (by omega) (kv _ fun i e => (hq i e).1)).trans h.net), (k2 _ (by omega)).trans ((k1 _ (by omega) (kv _ fun i e => (hq i e).2)).trans h.res),
    World.ownsRow.kept ho (grown_set w1 W.heap.size 1 _) (Or.inr (fun e => hqq.1 (Option.some.inj e))),
    World.ownsRow.kept (World.ownsRow.kept h.en hg ?_) (grown_set w1 W.heap.size 1 _) ?_, h.nx, fun i e => ?_, h.n0, fun i hi hne => ?_, ?_, h.ge⟩
  · cases hx : vx.ownBlock with
    | none => exact Or.inl rfl
    | some i => exact Or.inr fun e => hvx i e.symm hx
  · cases hx : vx.ownBlock with
    | none => exact Or.inl rfl
    | some i => exact Or.inr fun e => absurd (Option.some.inj e) (by have := h.nx i hx; show ¬ i = W.heap.size; omega)
  · obtain rfl : q = i := Option.some.inj e
    rcases hat with e1 | e1
    · exact h.nv q e1
    · right
      omega
  · refine (k2 i (by omega)).trans ((k1 i (by omega) (fun e => ?_)).trans (h.keep i hi hne))
    rcases h.nv i e with e1 | e1
    · exact hne e1
    · omega
  · exact bl_grown (bl_grown h.low hg (fun i e => (World.ownsRow.lt h.ed i e).1)) (grown_set w1 W.heap.size 1 _) (fun i e => by cases e; exact h.ge)
theorem Pat.state (h : Pat W0 W v0 S X vx v E wr) (S' : Nat) : Pat W0 W v0 S' X vx v E (wr.setCell ⟨W.heap.size, 0, none⟩ (.int .i64 (S' : Int))) := by
  have hl := h.lt
  have k2 : ∀ i, i ≠ W.heap.size → (wr.setCell ⟨W.heap.size, 0, none⟩ (.int .i64 (S' : Int))).heap[i]? = wr.heap[i]? := fun i hi => Below.heap_setCell _ _ _ _ (fun e => hi e)
  have hv : ∀ i, v.ownBlock = some i → i ≠ W.heap.size := fun i e => by
    rcases h.nv i e with e1 | e1
    · have := h.n0 i e1
      omega
    · omega
  refine ⟨heap_setCell_same wr W.heap.size 0 _ _ _ h.net, (k2 _ (by omega)).trans h.res,
    World.ownsRow.kept h.ed (grown_set wr W.heap.size 0 _) ?_, World.ownsRow.kept h.en (grown_set wr W.heap.size 0 _) ?_, h.nx, h.nv, h.n0, fun i hi hne => (k2 i (by omega)).trans (h.keep i hi hne), bl_grown h.low (grown_set wr W.heap.size 0 _) (fun i e => by cases e; exact h.ge), h.ge⟩
  · cases hx : v.ownBlock with
    | none => exact Or.inl rfl
    | some i => exact Or.inr fun e => hv i hx (Option.some.inj e)
  · cases hx : vx.ownBlock with
    | none => exact Or.inl rfl
    | some i => exact Or.inr fun e => absurd (Option.some.inj e) (by have := h.nx i hx; show ¬ i = W.heap.size; omega)
/-- The net behind its last end. -/
structure PatZ (W0 W : World) (v0 vx0 : Value) (S : Nat) (X : List Nat) (vx v : Value) (E : List Ed) (wr : World) : Prop where
  net : wr.heap[W.heap.size]? = some (.cells #[.int .i64 (S : Int), v, vx] 25 (0, 0))
  res : wr.heap[W.heap.size + 1]? = some (.cells #[.int .i64 0, .slice none 0 0, .slice none 0 0] 25 (0, 0))
  ed : OwnE wr W0.heap.size v E
  en : OwnI wr W0.heap.size vx X
  nx : ∀ i, vx.ownBlock = some i → vx0.ownBlock = some i ∨ W.heap.size + 2 ≤ i
  nv : ∀ i, v.ownBlock = some i → v0.ownBlock = some i ∨ W.heap.size + 2 ≤ i
  keep : ∀ i, i < W.heap.size → v0.ownBlock ≠ some i → vx0.ownBlock ≠ some i → wr.heap[i]? = W.heap[i]?
  low : Below W0.heap.size W0 wr
  n0 : ∀ i, v0.ownBlock = some i → i < W.heap.size
  n1 : ∀ i, vx0.ownBlock = some i → i < W.heap.size
  ge : W0.heap.size ≤ W.heap.size
theorem Pat.net2 (h : Pat W0 W v0 S X vx v E wr) (hg : wr.grownBy w1 vx.ownBlock) : w1.heap[W.heap.size]? = some (.cells #[.int .i64 (S : Int), v, vx] 25 (0, 0)) := by
  have hl := h.lt
  refine (hg.block _ (by omega) (fun e => ?_)).trans h.net
  have := h.nx _ e.symm
  omega
theorem Pat.fin (h : Pat W0 W v0 S X vx v E wr) {q n c : Nat} {X1 : List Nat} (ho : OwnI w1 W0.heap.size (.slice (some ⟨q, 0, none⟩) n c) X1) (hg : wr.grownBy w1 vx.ownBlock) (hat : vx.ownBlock = some q ∨ q = wr.heap.size) : PatZ W0 W v0 vx S X1 (.slice (some ⟨q, 0, none⟩) n c) v E (w1.setCell ⟨W.heap.size, 2, none⟩ (.slice (some ⟨q, 0, none⟩) n c)) := by
  have hl := h.lt
  have hvx := own_ne h.ed h.en
  have hqq : q ≠ W.heap.size ∧ q ≠ W.heap.size + 1 := by
    rcases hat with e | e
    · have := h.nx q e
      omega
    · omega
  have k1 : ∀ i, i < wr.heap.size → vx.ownBlock ≠ some i → w1.heap[i]? = wr.heap[i]? := fun i hi hne => hg.block i hi (fun e => hne e.symm)
  have k2 : ∀ i, i ≠ W.heap.size → (w1.setCell ⟨W.heap.size, 2, none⟩ (.slice (some ⟨q, 0, none⟩) n c)).heap[i]? = w1.heap[i]? := fun i hi => Below.heap_setCell _ _ _ _ (fun e => hi e)
  have kx : ∀ j, W.heap.size ≤ j → vx.ownBlock ≠ some j := fun j hj e => by
    have := h.nx j e
    omega
  refine ⟨heap_setCell_same w1 W.heap.size 2 _ _ _ (h.net2 hg), (k2 _ (by omega)).trans ((k1 _ (by omega) (kx _ (by omega))).trans h.res),
    World.ownsRow.kept (World.ownsRow.kept h.ed hg ?_) (grown_set w1 W.heap.size 2 _) ?_, World.ownsRow.kept ho (grown_set w1 W.heap.size 2 _) (Or.inr (fun e => hqq.1 (Option.some.inj e))), fun i e => ?_, h.nv, fun i hi hne hne2 => (k2 i (by omega)).trans ((k1 i (by omega) hne2).trans (h.keep i hi hne)), ?_, h.n0, h.nx, h.ge⟩
  · cases hx : v.ownBlock with
    | none => exact Or.inl rfl
    | some i => exact Or.inr fun e => hvx i hx e.symm
  · cases hx : v.ownBlock with
    | none => exact Or.inl rfl
    | some i => exact Or.inr fun e => absurd (Option.some.inj e) (by rcases h.nv i hx with e1 | e1; (have := h.n0 i e1; show ¬ i = W.heap.size; omega); (show ¬ i = W.heap.size; omega))
  · obtain rfl : q = i := Option.some.inj e
    rcases hat with e1 | e1
    · exact Or.inl e1
    · right
      omega
  · exact bl_grown (bl_grown h.low hg (fun i e => (World.ownsRow.lt h.en i e).1)) (grown_set w1 W.heap.size 2 _) (fun i e => by cases e; exact h.ge)
theorem PatZ.done {vx0 : Value} (h : PatZ W0 W v0 vx0 S X vx v E wr) (cs : Array Value) : OwnE (wr.setRow (W.heap.size + 1) cs) W0.heap.size v E ∧ OwnI (wr.setRow (W.heap.size + 1) cs) W0.heap.size vx X ∧ (∀ i, v.ownBlock = some i → v0.ownBlock = some i ∨ W.heap.size ≤ i) ∧ (∀ i, vx.ownBlock = some i → vx0.ownBlock = some i ∨ W.heap.size ≤ i)
    ∧ W.heap.size ≤ (wr.setRow (W.heap.size + 1) cs).heap.size ∧ (∀ i, i < W.heap.size → v0.ownBlock ≠ some i → vx0.ownBlock ≠ some i → (wr.setRow (W.heap.size + 1) cs).heap[i]? = W.heap[i]?) ∧ Below W0.heap.size W0 (wr.setRow (W.heap.size + 1) cs) := by
  have hg : wr.grownBy (wr.setRow (W.heap.size + 1) cs) (some (W.heap.size + 1)) := ⟨rfl, rfl, rfl, by simp, fun j hj hne => setRow_other _ _ _ _ (fun e => hne (by rw [e]))⟩
  have hlt : W.heap.size + 1 < wr.heap.size := (Array.getElem?_eq_some_iff.1 h.res).1
  have hge := h.ge
  refine ⟨World.ownsRow.kept h.ed hg ?_, World.ownsRow.kept h.en hg ?_, fun i e => (h.nv i e).imp id (fun h => by omega), fun i e => (h.nx i e).imp id (fun h => by omega), by simp; omega, fun i hi h1 h2 => (setRow_other _ _ _ _ (by omega)).trans (h.keep i hi h1 h2), bl_grown h.low hg (fun i e => by cases e; omega)⟩
  · cases hx : v.ownBlock with
    | none => exact Or.inl rfl
    | some i => exact Or.inr fun e => absurd (Option.some.inj e) (by rcases h.nv i hx with e1 | e1; (have := h.n0 i e1; show ¬ i = W.heap.size + 1; omega); (show ¬ i = W.heap.size + 1; omega))
  · cases hx : vx.ownBlock with
    | none => exact Or.inl rfl
    | some i => exact Or.inr fun e => absurd (Option.some.inj e) (by rcases h.nx i hx with e1 | e1; (have := h.n1 i e1; show ¬ i = W.heap.size + 1; omega); (show ¬ i = W.heap.size + 1; omega))
end

end Go.Proofs.YtcgfogdfcdndgaaGreatDoor
