/- Lists of lists of bytes: what the document's own Join does, a list of lists that a call made itself, and an argument of that type, opened. -/
import Derived.Test.YthoocdgaiojkmaaWalkG
import Derived.Test.YthoocdgaiojkmaaRow
import Derived.Deep.Matrix
set_option linter.unusedVariables false
namespace Go.Proofs.Ythoocdgaiojkmaa
open Go.ChangeShapes Go.WideShapes Go.ChangeAt Go.RowKit

/-- EqBytes turns nothing but the count of draws. -/
def Quiet (w : World) (b : Bool) (e : Ending) (w' : World) : Prop := e = .returned (.bool b) ∧ ∃ m, w' = w.drewN m

set_option maxHeartbeats 400000 in
set_option maxRecDepth 20000 in
theorem eq_quiet (A A' : Option Addr) (n c n' c' : Nat) (l : List UInt8) (w : World) (hl : l.length = n) (hl' : l.length = n') (hr : Rd w A l) (hr' : Rd w A' l) (hn : n ≤ maxLen) :
    Calls Try.prog 17 #[.slice A n c, .slice A' n' c'] w (Quiet w true) := by
  unfold maxLen at hn
  obtain rfl : n = n' := by omega
  have hb : ((n : Int) != (n : Int)) = false := by simp
  have HL := Lib.hid hl
  clear hl hl'
  go_enter Try.func17, Try.ntmps17
  go_wp2
  go_loopw [5] (fun i wr => ∃ k m : Nat, k ≤ n ∧ i = .int .i64 k ∧ Hid (wr = w.drewN m)) (fun i _ => n - (intOf i).toNat)
  case atStart => exact ⟨0, 0, Nat.zero_le _, rfl, rfl⟩
  case round =>
    obtain ⟨k, m, hk, rfl, HW⟩ := hrel
    by_cases hlt : k < n
    · have h1 : k < l.length := by have := HL.out; omega
      have hrr : Rd wr A l := by rw [HW.out]; exact hr
      have hrr' : Rd wr A' l := by rw [HW.out]; exact hr'
      obtain ⟨ad, rfl, hc⟩ := hrr.cell h1
      obtain ⟨ad', rfl, hc'⟩ := hrr'.cell h1
      clear hr hr' hrr hrr'
      go_wp2
      have hb : ((l[k].toNat : Int) != (l[k].toNat : Int)) = false := by simp
      go_quiet (fail)
      go_wp2
      exact ⟨⟨k + 1, m + nq, by omega, by go_num, by rw [HW.out]; exact World.drewN_drewN ..⟩, by simp [intOf]; omega⟩
    · go_wp2
      go_ret
      exact ⟨rfl, m, HW.out⟩

set_option maxHeartbeats 1000000 in
set_option maxRecDepth 20000 in
theorem refjoin_any (A : Option Addr) (n c : Nat) (ll : List (List UInt8)) (w : World) (hl : ll.length = n) (hr : RdL w A ll) (hn : n ≤ maxLen) (hs : ll.flatten.length ≤ 200000000000000) :
    Calls Try.prog 25 #[.slice A n c] w (GotBytes w ll.flatten) := by
  unfold maxLen at hn
  have HL := Lib.hid hl
  have hcl : ∀ k, catLen ll k ≤ 200000000000000 := fun k => by have := catLen_le ll k; omega
  have HC := Lib.hid hcl
  clear hl hcl hs
  go_enter Try.func25, Try.ntmps25
  go_wp2
  go_loopw [3, 4] (fun v i wr => ∃ q : Nat, q ≤ n ∧ i = .int .i64 q ∧ Own wr w.heap.size v (catTo ll q) ∧ Below w.heap.size w wr) (fun _ i _ => n - (intOf i).toNat)
  case atStart => exact ⟨0, Nat.zero_le _, rfl, Own.nil _ _, Below.refl _ _⟩
  case round =>
    obtain ⟨q, hq, rfl, hown, hbl⟩ := hrel
    by_cases hqn : q < n
    · have hq' : q < ll.length := by have := HL.out; omega
      obtain ⟨ad, Aq, cq, rfl, hcell, hrq⟩ := (hr.below hbl).at hq'
      have hle' := HC.out (q + 1)
      rw [catLen_more hq'] at hle'
      have hle'' : (catTo ll q).length + ll[q].length ≤ 200000000000000 := hle'
      have hsz := hbl.size
      go_wp2_with (at_builtin; refine wpList_append_bytes _ rfl _ _ rfl w.heap.size _ (catTo ll q) rfl hown Aq _ cq ll[q] rfl rfl hrq (by omega) (by omega) ?_)
      intro v' w' ho' hg' _
      go_wp2
      refine ⟨⟨q + 1, by omega, by go_num, ?_, bl_grown hbl hg' (fun k hk => (hown.lt k hk).1)⟩, by simp [intOf]; omega⟩
      rw [cat_more hq']
      exact ho'
    · go_wp2
      go_ret
      refine ⟨_, rfl, ?_, hbl⟩
      rw [← cat_all ll q (by have := HL.out; omega)]
      exact hown

/-- A list of lists of bytes that a call made itself: its own row of slices, each of them the call's own. -/
def OwnL (w : World) (base : Nat) (v : Value) (ll : List (List UInt8)) : Prop :=
  ∃ xs : List Value, w.ownsRow base 22 1 v ll.length xs ∧ ∀ j (h : j < ll.length), ∃ u, xs[j]? = some u ∧ Own w base u ll[j]

theorem Own.oneCell {w : World} {base : Nat} {v : Value} {l : List UInt8} (h : Own w base v l) : v.oneCell' = true := by
  obtain ⟨A, n, c, rfl, _⟩ := h.form
  rfl
/-- Bytes and slices never lie in one block. -/
theorem types_ne {w : World} {b b' : Nat} {u v : Value} {x : List UInt8} {n : Nat} {xs : List Value} (h : Own w b u x) (hv : w.ownsRow b' 22 1 v n xs) : u.ownBlock = none ∨ u.ownBlock ≠ v.ownBlock := by
  rcases h.2 with ⟨rfl, _⟩ | ⟨g, cap, cur, rfl, _, hg, _⟩
  · exact .inl rfl
  · right
    rcases hv.2 with ⟨rfl, _⟩ | ⟨g', cap', cur', rfl, _, hg', _⟩
    · simp [Value.ownBlock]
    · intro e
      have e' : g = g' := by simpa [Value.ownBlock] using e
      subst e'
      rw [hg] at hg'
      simp at hg'
theorem OwnL.nil (w : World) (base : Nat) : OwnL w base (.slice none 0 0) [] := ⟨[], World.ownsRow_nil _ _ _ _, fun j h => by simp at h⟩
/-- Behind an append of one slice more. -/
theorem OwnL.more {w w' : World} {base : Nat} {v v' u : Value} {ll : List (List UInt8)} {x : List UInt8} {xs : List Value} (h1 : w.ownsRow base 22 1 v ll.length xs) (h2 : ∀ j (h : j < ll.length), ∃ u, xs[j]? = some u ∧ Own w base u ll[j])
    (hu : Own w base u x) (h3 : w'.ownsRow base 22 1 v' (ll.length + 1) (xs ++ [u])) (hg : w.grownBy w' v.ownBlock) : OwnL w' base v' (ll ++ [x]) := by
  refine ⟨xs ++ [u], by rw [List.length_append]; exact h3, fun j hj => ?_⟩
  have hxl : xs.length = ll.length := by have := h1.1; omega
  rcases Nat.lt_or_ge j ll.length with hlt | hge
  · obtain ⟨y, e, ho⟩ := h2 j hlt
    refine ⟨y, by rw [List.getElem?_append_left (by omega)]; exact e, ?_⟩
    rw [List.getElem_append_left hlt]
    exact ho.kept hg (types_ne ho h1)
  · obtain rfl : j = ll.length := by simp at hj; omega
    refine ⟨u, by rw [← hxl]; simp, ?_⟩
    rw [List.getElem_concat_length rfl]
    exact hu.kept hg (types_ne hu h1)
theorem OwnL.form {w : World} {base : Nat} {v : Value} {ll : List (List UInt8)} (h : OwnL w base v ll) : ∃ A n c, v = .slice A n c ∧ Hid (ll.length = n) ∧ n ≤ c ∧ c ≤ maxLen ∧ RdL w A ll := by
  obtain ⟨xs, h1, h2⟩ := h
  have hcells : ∀ (A : Option Addr), (∀ g, A = some (⟨g, 0, none⟩ : Addr) → v.ownBlock = some g) → (0 < ll.length → ∃ g, A = some (⟨g, 0, none⟩ : Addr)) → RdL w A ll := fun A hA hs hl => by
    obtain ⟨g, rfl⟩ := hs hl
    refine ⟨_, rfl, fun j hj => ?_⟩
    obtain ⟨u, e, ho⟩ := h2 j hj
    obtain ⟨A', n', c', rfl, HL, _, _, hr⟩ := ho.form
    refine ⟨A', c', ?_, hr⟩
    rw [World.ownsRow.cells h1 (hA g rfl) j _ e, HL.out]
  rcases h1.2 with ⟨rfl, hn⟩ | ⟨g, cap, cur, rfl, _, _, hnc, hcm, _⟩
  · exact ⟨none, 0, 0, rfl, hn, Nat.le_refl _, by simp [maxLen], hcells none (fun g h => by cases h) (fun h => by omega)⟩
  · exact ⟨some ⟨g, 0, none⟩, _, cap, rfl, rfl, hnc, hcm, hcells _ (fun g' h => by cases h; rfl) (fun _ => ⟨g, rfl⟩)⟩
theorem OwnL.below {w w' : World} {base : Nat} {v : Value} {ll : List (List UInt8)} (h : OwnL w base v ll) (hb : Below w.heap.size w w') : OwnL w' base v ll := by
  obtain ⟨xs, h1, h2⟩ := h
  refine ⟨xs, World.ownsRow.kept h1 (grown_of_below hb none) (by cases hv : v.ownBlock <;> simp), fun j hj => ?_⟩
  obtain ⟨u, e, ho⟩ := h2 j hj
  exact ⟨u, e, ho.below hb⟩

theorem info_bs : (Try.prog.info? 22).map (fun i => (i.zero, i.size, i.bytes)) = some (some (.slice none 0 0), 1, 24) := by kernel_rfl
theorem cells_bs : Try.prog.cellsOf 22 = 1 := by kernel_rfl

theorem one_cell (w : World) (u : Value) (t : TypeId) : ∀ j x, [u][j]? = some x → (w.alloc (.cells #[u] t)).cell? ((⟨w.heap.size, 0, none⟩ : Addr).add j) = some x := by
  intro j x hx
  rcases j with _ | j
  · simp at hx
    subst hx
    simp [Addr.add]
  · simp at hx

/-- How many bytes lie in rows: at most what the reading holds. -/
theorem rows_bulk {H : Type} (f : Nat → DataW H) (g : Nat → List UInt8) (h : ∀ r, (g r).length + 1 ≤ Rows.uptoBulk (f r)) : ∀ l : List Nat, (l.map g).flatten.length + l.length ≤ Rows.uptoBulkAll (l.map f)
  | [] => by simp [Rows.uptoBulkAll]
  | r :: l => by
    have h1 := h r
    have h2 := rows_bulk f g h l
    simp only [List.map_cons, List.flatten_cons, List.length_append, List.length_cons, Rows.uptoBulkAll]
    omega
theorem lits_bulk {H : Type} (k : IntKind) : ∀ zs : List Int, zs.length ≤ Rows.uptoBulkAll (lits (H := H) k zs)
  | [] => by simp
  | z :: zs => by
    have h := lits_bulk (H := H) k zs
    simp only [lits, List.map_cons, Rows.uptoBulkAll, Rows.uptoBulk, List.length_cons]
    simp only [lits] at h
    omega

/-- An argument of type [][]byte, opened. -/
theorem open_lists {H : Type} {enc : TypeId × Value → H} {W : World} {base : Nat} {v : Value} {d : DataW H} {p : List MemPlace} (hv : Value.okWide Try.prog W .any base 37 v)
    (h0 : DataW.Trod enc Try.prog W 0 (fun _ => true) true 37 v d p) (hb : Rows.uptoBulkAll [d] ≤ 1048576) :
    ∃ A n c ll, v = .slice A n c ∧ ll.length = n ∧ n ≤ 1048576 ∧ ll.flatten.length ≤ 1048576 ∧ RdL W A ll := by
  obtain ⟨A, n, c, rfl⟩ := okWide_slice Try.underlying37 hv
  obtain ⟨fuel, hf⟩ := h0
  rcases Deep.open_int_rows Try.underlying37 Try.underlying22 Try.underlying5 cells_bs cells_u8 hf with ⟨hcs, hx⟩ | ⟨a, len, cap, B, L, C, Z, hcs, _, hl, hm, hx, hcell⟩
  · simp [Value.cells] at hcs
    obtain ⟨rfl, rfl, rfl⟩ := hcs
    exact ⟨none, 0, 0, [], rfl, rfl, by omega, by simp, fun h => absurd h (by simp)⟩
  · simp [Value.cells] at hcs
    obtain ⟨rfl, rfl, rfl⟩ := hcs
    simp only [Prod.mk.injEq] at hx
    obtain ⟨rfl, rfl⟩ := hx
    have hrow : ∀ r, r < c → ((Z r).take (L r)).length = L r := fun r hr => by
      obtain ⟨_, h1, _, h2, _⟩ := hcell r hr
      rw [List.length_take]
      omega
    let g : Nat → List UInt8 := fun r => if r < c then ((Z r).take (L r)).map (fun z => UInt8.ofNat z.toNat) else []
    have hgl : ∀ r, r < c → (g r).length = L r := fun r hr => by
      show (if r < c then _ else _ : List UInt8).length = _
      rw [if_pos hr, List.length_map, hrow r hr]
    have hbulk : ∀ r, (g r).length + 1 ≤ Rows.uptoBulk (Deep.intRow (H := H) .u8 (B r) (L r) (Z r)) := fun r => by
      by_cases hr : r < c
      · rw [hgl r hr]
        obtain ⟨_, h1, _, h2, _, h3, _⟩ := hcell r hr
        rcases hB : B r with _ | b
        · have := h3 hB
          simp only [Deep.intRow, Rows.uptoBulk]
          omega
        · simp only [Deep.intRow, Rows.uptoBulk]
          have := lits_bulk (H := H) .u8 ((Z r).take (L r))
          rw [hrow r hr] at this
          omega
      · have e : g r = [] := if_neg hr
        rw [e]
        rcases hB : B r with _ | b <;> simp [Deep.intRow, Rows.uptoBulk]
    have hall := rows_bulk _ g hbulk (List.range n)
    simp only [Rows.uptoBulkAll, Rows.uptoBulk, List.length_range] at hb hall
    refine ⟨some a, n, c, (List.range n).map g, rfl, by simp, by omega, by omega, fun _ => ⟨a, rfl, fun j hj => ?_⟩⟩
    have hjn : j < n := by simpa using hj
    have hjc : j < c := by omega
    obtain ⟨h1, h2, _, h3, h4, h5, h6⟩ := hcell j hjc
    have eg : ((List.range n).map g)[j] = g j := by simp
    rw [eg, hgl j hjc]
    refine ⟨B j, C j, h1, fun hpos => ?_⟩
    rw [hgl j hjc] at hpos
    rcases hB : B j with _ | b
    · have := h5 hB; omega
    · refine ⟨b, rfl, fun k hk => ?_⟩
      rw [hgl j hjc] at hk
      have hkz : k < (Z j).length := by omega
      have hgk : (Z j).getD k 0 = (Z j)[k] := by simp [List.getD, hkz]
      have hz : 0 ≤ (Z j)[k] ∧ (Z j)[k] ≤ 255 := by
        have := h4 (Z j)[k] (List.getElem_mem hkz)
        simpa [Lit.wf, IntKind.min, IntKind.max, IntKind.signed, IntKind.bits] using this
      rw [(h6 b hB).2 k (by omega), hgk]
      have e2 : (g j)[k]'(by rw [hgl j hjc]; exact hk) = UInt8.ofNat ((Z j)[k]).toNat := by
        have e3 : g j = ((Z j).take (L j)).map (fun z => UInt8.ofNat z.toNat) := if_pos hjc
        simp only [e3, List.getElem_map, List.getElem_take]
      rw [e2]
      unfold bv
      rw [UInt8.toNat_ofNat', Nat.mod_eq_of_lt (by omega), Int.toNat_of_nonneg hz.1]

end Go.Proofs.Ythoocdgaiojkmaa
