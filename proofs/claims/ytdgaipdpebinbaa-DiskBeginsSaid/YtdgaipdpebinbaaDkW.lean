/- Rows of deeds; 'fell' and 'has' of the laws: contracts over the translated program. No condition but what each statement names. -/
import Derived.Test.YtdgaipdpebinbaaDkUn
import Derived.Test.YtdgaipdpebinbaaDkWl
set_option linter.unusedVariables false
set_option linter.unusedSimpArgs false
namespace Go.Proofs.Ytdgaipdpebinbaa
open Go.RowKit Go.Maps Go.Shelf Go.Sort

/-- A deed in memory, and the bytes that it has. -/
structure MD where
  k : Int
  N : Int
  B : Int
  G : ByteArray
  V : ByteArray
  A : Option Addr
  m : Nat
  c : Nat
  A2 : Option Addr
  m2 : Nat
  c2 : Nat
  b : BS
def MD.cells (x : MD) : List Value := deedCells x.k x.N x.B x.G x.V x.A x.m x.c x.A2 x.m2 x.c2
def MD.val (x : MD) : Value := deedV x.k x.N x.B x.G x.V x.A x.m x.c x.A2 x.m2 x.c2
theorem MD.cells_len (x : MD) : x.cells.length = 7 := rfl
theorem MD.cells_one (x : MD) : ∀ u ∈ x.cells, u.oneCell' = true := by
  intro u hu
  simp [MD.cells, deedCells] at hu
  rcases hu with rfl | rfl | rfl | rfl | rfl | rfl | rfl <;> rfl
/-- Its bytes read. -/
structure MD.Ok (w : World) (x : MD) : Prop where
  k1 : -9223372036854775808 ≤ x.k
  k2 : x.k ≤ 9223372036854775807
  g : x.G.size ≤ maxLen
  v : x.V.size ≤ maxLen
  mc : x.m ≤ x.c
  c : x.c ≤ 140737488351232
  len : x.b.length = x.m
  rd : Rd w x.A x.b
/-- A slice that reads as deeds. -/
def RdD (w : World) (A : Option Addr) (l : List MD) : Prop :=
  0 < l.length → ∃ ad, A = some ad ∧ ∀ j (h : j < l.length) q v, (l[j].cells)[q]? = some v → w.cell? (ad.add (j * 7 + q)) = some v
theorem RdD.nil (w : World) (A : Option Addr) : RdD w A [] := fun h => absurd h (by simp)
theorem RdD.below {w w' : World} {A : Option Addr} {l : List MD} (h : RdD w A l) (hb : Below w.heap.size w w') : RdD w' A l := fun hl => by
  obtain ⟨ad, e, hc⟩ := h hl
  exact ⟨ad, e, fun j hj q v hq => (hb.cell (World.block_lt_of_cell? w _ (hc j hj q v hq))).trans (hc j hj q v hq)⟩
theorem MD.Ok.below {w w' : World} {x : MD} (h : x.Ok w) (hb : Below w.heap.size w w') : x.Ok w' := ⟨h.k1, h.k2, h.g, h.v, h.mc, h.c, h.len, h.rd.below hb⟩
theorem RdD.at {w : World} {A : Option Addr} {l : List MD} (h : RdD w A l) {j : Nat} (hj : j < l.length) : ∃ ad, A = some ad ∧ ∀ q v, (l[j].cells)[q]? = some v → w.cell? (ad.add (j * 7 + q)) = some v := by
  obtain ⟨ad, e, hc⟩ := h (by omega)
  exact ⟨ad, e, hc j hj⟩
theorem flat_at : ∀ (l : List MD) (j : Nat) (hj : j < l.length) (q : Nat) (v : Value), (l[j].cells)[q]? = some v → ((l.map MD.cells).flatten)[j * 7 + q]? = some v
  | [], j, hj, _, _, _ => by simp at hj
  | x :: r, 0, _, q, v, h => by
    have hq : q < x.cells.length := (List.getElem?_eq_some_iff.1 h).1
    simp only [List.map_cons, List.flatten_cons, Nat.zero_mul, Nat.zero_add]
    rw [List.getElem?_append_left hq]
    exact h
  | x :: r, j + 1, hj, q, v, h => by
    have := flat_at r j (by simpa using hj) q v h
    simp only [List.map_cons, List.flatten_cons]
    rw [List.getElem?_append_right (by rw [MD.cells_len]; omega), MD.cells_len, show (j + 1) * 7 + q - 7 = j * 7 + q from by omega]
    exact this
/-- The seven cells of a deed in a row, as a load asks for them. -/
theorem RdD.load {w : World} {A : Option Addr} {l : List MD} (h : RdD w A l) {j : Nat} (hj : j < l.length) : ∃ ad, A = some ad ∧ w.cell? (ad.add (j * 7)) = some (.int .i64 l[j].k) ∧
    w.cell? ⟨(ad.add (j * 7)).block, (ad.add (j * 7)).off + 1, none⟩ = some (.string l[j].G) ∧ w.cell? ⟨(ad.add (j * 7)).block, (ad.add (j * 7)).off + 2, none⟩ = some (.string l[j].V) ∧
    w.cell? ⟨(ad.add (j * 7)).block, (ad.add (j * 7)).off + 3, none⟩ = some (.slice l[j].A l[j].m l[j].c) ∧ w.cell? ⟨(ad.add (j * 7)).block, (ad.add (j * 7)).off + 4, none⟩ = some (.int .i64 l[j].N) ∧
    w.cell? ⟨(ad.add (j * 7)).block, (ad.add (j * 7)).off + 5, none⟩ = some (.int .i64 l[j].B) ∧ w.cell? ⟨(ad.add (j * 7)).block, (ad.add (j * 7)).off + 6, none⟩ = some (.slice l[j].A2 l[j].m2 l[j].c2) := by
  obtain ⟨ad, e, hc⟩ := h.at hj
  refine ⟨ad, e, hc 0 _ rfl, ?_, ?_, ?_, ?_, ?_, ?_⟩
  all_goals rw [add_field _ _ _ (by omega)]
  · exact hc 1 _ rfl
  · exact hc 2 _ rfl
  · exact hc 3 _ rfl
  · exact hc 4 _ rfl
  · exact hc 5 _ rfl
  · exact hc 6 _ rfl
theorem RdD.new (w : World) (l : List MD) (t : TypeId) : RdD (w.alloc (.cells ((l.map MD.cells).flatten).toArray t)) (some ⟨w.heap.size, 0, none⟩) l := fun _ => by
  refine ⟨_, rfl, fun j hj q v h => ?_⟩
  have h2 := flat_at l j hj q v h
  rw [add_at]
  simp only [World.cell?, heap_alloc_new]
  simp [h2]

/-- The deed that it is to the plain machine. -/
def MD.dd (x : MD) : Dd := ⟨x.k.toNat, x.G.data.toList, x.V.data.toList, x.b⟩

section
variable {w : World} {own : Nat → Option Role} {d bn bk : Nat} {loc : Nat → Nat} {s : DS} {L : Nat → Prop}
/-- A deed that may be done: of the first five kinds, its names right. -/
structure MD.May (x : MD) : Prop where
  k1 : 0 ≤ x.k
  k2 : x.k < 5
  g : x.k ≠ 4 → isN x.G = true
  v : x.k = 2 → isN x.V = true
  gs : x.G.size ≤ 40
  vs : x.V.size ≤ 40
theorem does_any (hA : At w own d bn bk loc s (Ref s)) {k m r : Nat} (hR : Run s k m r) (hk : k ≤ 1000) (hm : m ≤ 1000000) (hr : r ≤ 16777216) (x : MD) (hx : x.May) (hl : x.b.length = x.m) (hrd : Rd w x.A x.b) (hO : 0 < x.b.length → ∀ p, x.A = some p → own p.block = none) (hxm : x.m ≤ 549755813888) :
    Calls Try.prog 8 #[x.val, .pointer (some ⟨d, 0, none⟩)] w (GotA w own d (.int .i64 ((dE s x.dd).2 : Nat)) (dE s x.dd).1) := by
  have hg := good_of hR.inv (hR.bnd.mono hk hm)
  have hroom : s.room ≤ 16777216 := by rw [hR.room]; exact hr
  obtain ⟨x1, x2, x3, x4, x5, x6⟩ := hx
  have hgs : x.G.size ≤ maxLen := by unfold maxLen; omega
  have hvs : x.V.size ≤ maxLen := by unfold maxLen; omega
  unfold MD.val MD.dd
  have h5 : x.k = 0 ∨ x.k = 1 ∨ x.k = 2 ∨ x.k = 3 ∨ x.k = 4 := by omega
  rcases h5 with h | h | h | h | h
  · rw [h] at x3 x4 ⊢
    exact does_0 hA hg hR.short hR.live _ _ _ _ _ _ _ _ _ _ _ (x3 (by omega)) hvs hl hrd hO hxm hroom
  · rw [h] at x3 x4 ⊢
    exact does_1 hA hg hR.short hR.live _ _ _ _ _ _ _ _ _ _ _ (x3 (by omega)) hvs hl hrd hO hxm hroom
  · rw [h] at x3 x4 ⊢
    exact does_2 hA hg hR.short hR.live _ _ _ _ _ _ _ _ _ _ _ (x3 (by omega)) (x4 rfl) hl hrd hO hxm hroom
  · rw [h] at x3 x4 ⊢
    exact does_3 hA hg hR.short hR.live _ _ _ _ _ _ _ _ _ _ _ (x3 (by omega)) hvs hl hrd hO hxm hroom
  · rw [h] at x3 x4 ⊢
    exact does_4 hA hg hR.short hR.live _ _ _ _ _ _ _ _ _ _ _ hgs hvs hl hrd hO hxm hroom

def fellE (keep : List Int) (l : List Dd) : DS := bootE (fallE (dsE (newE 100) l) keep)
/-- A disk that a call made. -/
def GotNew (w : World) (s : DS) (e : Ending) (w' : World) : Prop :=
  ∃ own d, e = .returned (.pointer (some ⟨d, 0, none⟩)) ∧ DiskIn w' own d s ∧ (∀ b, own b ≠ none → w.heap.size ≤ b) ∧ Below w.heap.size w w'
set_option maxHeartbeats 1000000 in
set_option maxRecDepth 20000 in
theorem fell_any (w : World) (Ak : Option Addr) (mk ck : Nat) (keep : List Int) (A : Option Addr) (m c : Nat) (D : List MD) (hkl : keep.length = mk) (hkr : RdI w Ak keep) (h64 : In64 keep) (hl : D.length = m) (hr : RdD w A D) (hm : m ≤ 100) (hmc : m ≤ c) (hcm : c ≤ maxLen)
    (hD : ∀ x ∈ D, x.May ∧ x.Ok w ∧ x.m ≤ 100) :
    Calls Try.prog 40 #[.slice Ak mk ck, .slice A m c] w (GotNew w (fellE keep (D.map MD.dd))) := by
  have hnew := fun w => new_any w 100 (by omega)
  have HD := Lib.hid hD
  have HL := Lib.hid hl
  have HKL := Lib.hid hkl
  have H64 := Lib.hid h64
  clear hD hl hkl h64
  go_enter Try.func40, Try.ntmps40
  go_wp2_with fail
  refine (hnew w).mono ?_
  rintro e w1 ⟨own0, d, rfl, hd0, hf0, hb0⟩
  clear hnew
  have hL0 : Lies w w1 own0 d (dsE (newE 100) ((D.take 0).map MD.dd)) := ⟨hd0, hf0, hb0⟩
  clear hd0 hf0 hb0
  go_wp2_with fail
  go_loopw [7] (fun i wr => ∃ j : Nat, j ≤ m ∧ i = .int .i64 (j : Int) ∧ ∃ own, Lies w wr own d (dsE (newE 100) ((D.take j).map MD.dd))) (fun i _ => m - (intOf i).toNat)
  case atStart => exact ⟨0, Nat.zero_le _, rfl, own0, hL0⟩
  case round =>
    clear hL0
    obtain ⟨j, hj, rfl, own, hLj⟩ := hrel
    have hrun : Run (dsE (newE 100) ((D.take j).map MD.dd)) j (j * 100) 100 := by
      have h1 := run_ds (run_new 100) 100 ((D.take j).map MD.dd) (fun x hx => by
        obtain ⟨y, hy, rfl⟩ := List.mem_map.1 hx
        obtain ⟨h1, h2, h3⟩ := HD.out y (List.mem_of_mem_take hy)
        exact ⟨⟨by show y.G.size ≤ 40; exact h1.gs, by show y.V.size ≤ 40; exact h1.vs⟩, by show y.b.length ≤ 100; rw [h2.len]; exact h3⟩)
      have hlen : ((D.take j).map MD.dd).length = j := by
        have := HL.out
        simp
        omega
      rw [hlen, Nat.zero_add, Nat.zero_add] at h1
      exact h1
    by_cases hlt : j < m
    · have hjl : j < D.length := by have := HL.out; omega
      obtain ⟨x1, x2, x3⟩ := HD.out _ (List.getElem_mem hjl)
      obtain ⟨ad, rfl, q0, q1, q2, q3, q4, q5, q6⟩ := (hr.below hLj.below).load hjl
      obtain ⟨bn, bk, loc, hA⟩ := hLj.disk
      have hdo := does_any hA hrun (by omega) (by omega) (by omega) D[j] x1 x2.len (x2.rd.below hLj.below) (rd_free hLj x2.rd) (by omega)
      have hnx : (dE (dsE (newE 100) ((D.take j).map MD.dd)) D[j].dd).1 = dsE (newE 100) ((D.take (j + 1)).map MD.dd) := by
        rw [List.take_succ_eq_append_getElem hjl, List.map_append, List.map_singleton, dsE_snoc]
      rw [hnx] at hdo
      have HNX := Lib.hid hnx
      clear hnx
      clear hA x1 x2 hrun
      unfold MD.val deedV at hdo
      go_wp2_with fail
      refine hdo.mono ?_
      rintro e w2 ⟨rfl, own2, hD2, hK2⟩
      clear q0 q1 q2 q3 q4 q5 q6
      go_wp2
      exact ⟨⟨j + 1, by omega, by go_num, own2, hLj.next hD2 hK2⟩, by simp [intOf]; omega⟩
    · have hjm : j = m := by omega
      subst hjm
      have htk : D.take j = D := List.take_of_length_le (by have := HL.out; omega)
      rw [htk] at hLj hrun
      obtain ⟨bn, bk, loc, hA⟩ := hLj.disk
      have hcr := crash_any hA hrun.live Ak mk ck keep HKL.out (hkr.below hLj.below) H64.out (rdI_free hLj hkr) (fallOk_of hrun.inv hrun.short (hrun.bnd.mono (by omega) (by omega)) (by rw [hrun.room]; omega) keep)
      clear hA
      go_wp2_with fail
      refine hcr.mono ?_
      rintro e w2 ⟨rfl, own2, hD2, hK2⟩
      have hL2 := hLj.next hD2 hK2
      obtain ⟨bn2, bk2, loc2, hA2⟩ := hD2
      have hbt := boot_any hA2
      clear hA2
      go_wp2_with fail
      refine hbt.mono ?_
      rintro e w3 ⟨rfl, hA3, hK3⟩
      have hL3 := hL2.next (s2 := bootE (fallE (dsE (newE 100) (D.map MD.dd)) keep)) ⟨bn2, bk2, loc2, hA3⟩ hK3
      go_wp2_with fail
      go_ret
      exact ⟨own2, d, rfl, hL3.disk, hL3.far, hL3.below⟩
end
end Go.Proofs.Ytdgaipdpebinbaa
