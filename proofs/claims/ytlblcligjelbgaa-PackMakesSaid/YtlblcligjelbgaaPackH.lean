/- The statements' helper 'made' (layer 3); lists of lists of bytes as an argument, of whatever size. -/
import Derived.Test.YtlblcligjelbgaaPackG
import Derived.Test.YtlblcligjelbgaaRow
import Derived.Deep.Matrix
import Derived.Deep.RegionHeldLaw
set_option linter.unusedVariables false
namespace Go.Proofs.Ytlblcligjelbgaa
open Go.ChangeShapes Go.WideShapes Go.ChangeAt Go.RowKit

/-- A slice of slices of bytes, in memory, each within its room. -/
def RdC (w : World) (A : Option Addr) (ll : List (List UInt8)) : Prop :=
  0 < ll.length → ∃ ad, A = some ad ∧ ∀ j (h : j < ll.length), ∃ Aj cj, w.cell? (ad.add j) = some (.slice Aj ll[j].length cj) ∧ ll[j].length ≤ cj ∧ cj ≤ maxLen ∧ Rd w Aj ll[j]
theorem RdC.at {w : World} {A : Option Addr} {ll : List (List UInt8)} (h : RdC w A ll) {k : Nat} (hk : k < ll.length) :
    ∃ ad Ak n c, A = some ad ∧ w.cell? (ad.add k) = some (.slice Ak n c) ∧ Hid (ll[k].length = n) ∧ n ≤ c ∧ c ≤ maxLen ∧ Rd w Ak ll[k] := by
  obtain ⟨ad, e, hc⟩ := h (by omega)
  obtain ⟨Ak, ck, h1, h2, h3, h4⟩ := hc k hk
  exact ⟨ad, Ak, _, ck, e, h1, rfl, h2, h3, h4⟩
theorem RdC.below {w w' : World} {A : Option Addr} {ll : List (List UInt8)} (h : RdC w A ll) (hb : Below w.heap.size w w') : RdC w' A ll := fun hl => by
  obtain ⟨ad, e, hc⟩ := h hl
  refine ⟨ad, e, fun j hj => ?_⟩
  obtain ⟨Aj, cj, h1, h2, h3, h4⟩ := hc j hj
  exact ⟨Aj, cj, (hb.cell (World.block_lt_of_cell? w _ h1)).trans h1, h2, h3, h4.below hb⟩

theorem cells_bs : Try.prog.cellsOf 24 = 1 := by kernel_rfl
/-- An argument of type [][]byte, opened. -/
theorem open_lists {H : Type} {enc : TypeId × Value → H} {W : World} {base : Nat} {v : Value} {d : DataW H} {p : List MemPlace} (hv : Value.okWide Try.prog W .any base 43 v)
    (h0 : DataW.Trod enc Try.prog W 0 (fun _ => true) true 43 v d p) :
    ∃ A n c ll, v = .slice A n c ∧ ll.length = n ∧ n ≤ c ∧ c ≤ maxLen ∧ RdC W A ll := by
  obtain ⟨A, n, c, rfl⟩ := okWide_slice Try.underlying43 hv
  obtain ⟨fuel, hf⟩ := h0
  rcases Deep.open_int_rows Try.underlying43 Try.underlying24 Try.underlying5 cells_bs cells_u8 hf with ⟨hcs, hx⟩ | ⟨a, len, cap, B, L, C, Z, hcs, _, hl, hm, hx, hcell⟩
  · simp [Value.cells] at hcs
    obtain ⟨rfl, rfl, rfl⟩ := hcs
    exact ⟨none, 0, 0, [], rfl, rfl, by omega, by simp [maxLen], fun h => absurd h (by simp)⟩
  · simp [Value.cells] at hcs
    obtain ⟨rfl, rfl, rfl⟩ := hcs
    have hrow : ∀ r, r < c → ((Z r).take (L r)).length = L r := fun r hr => by
      obtain ⟨_, h1, _, h2, _⟩ := hcell r hr
      rw [List.length_take]
      omega
    let g : Nat → List UInt8 := fun r => ((Z r).take (L r)).map (fun z => UInt8.ofNat z.toNat)
    have hgl : ∀ r, r < c → (g r).length = L r := fun r hr => by
      show (((Z r).take (L r)).map _).length = _
      rw [List.length_map, hrow r hr]
    refine ⟨some a, n, c, (List.range n).map g, rfl, by simp, hl, hm, fun _ => ⟨a, rfl, fun j hj => ?_⟩⟩
    have hjn : j < n := by simpa using hj
    have hjc : j < c := by omega
    obtain ⟨h1, h2, h2', h3, h4, h5, h6⟩ := hcell j hjc
    have eg : ((List.range n).map g)[j] = g j := by simp
    rw [eg, hgl j hjc]
    refine ⟨B j, C j, h1, h2, h2', fun hpos => ?_⟩
    rw [hgl j hjc] at hpos
    rcases hB : B j with _ | b
    · have := h5 hB; omega
    · refine ⟨b, rfl, fun k hk => ?_⟩
      rw [hgl j hjc] at hk
      have hkz : k < (Z j).length := by omega
      have hgk : (Z j).getD k 0 = (Z j)[k] := by simp [List.getD, hkz]
      have hz : 0 ≤ (Z j)[k] ∧ (Z j)[k] ≤ 255 := by
        have := h4 (Z j)[k] (List.getElem_mem hkz)
        simpa [Lit.wf, IntKind.min, IntKind.max, IntKind.signed, IntKind.bits] using this
      rw [(h6 b hB).2 k (by omega), hgk]
      have e2 : (g j)[k]'(by rw [hgl j hjc]; exact hk) = UInt8.ofNat ((Z j)[k]).toNat := by
        show (((Z j).take (L j)).map (fun z => UInt8.ofNat z.toNat))[k]'_ = _
        simp only [List.getElem_map, List.getElem_take]
      rw [e2]
      unfold bv
      rw [UInt8.toNat_ofNat', Nat.mod_eq_of_lt (by omega), Int.toNat_of_nonneg hz.1]

/-- The sections that 'made' makes. -/
def madeFrom : Nat → List (List UInt8) → List Sec
  | _, [] => []
  | t, x :: r => (((t + 1 + x.length % 20 : Nat) : Int), x.take 3000) :: madeFrom (t + 1 + x.length % 20) r
def madeE (ll : List (List UInt8)) : List Sec := madeFrom 0 (ll.take 9)
theorem made_drop {ll : List (List UInt8)} {k : Nat} (h : k < ll.length) (t : Nat) : madeFrom t (ll.drop k) = (((t + 1 + ll[k].length % 20 : Nat) : Int), ll[k].take 3000) :: madeFrom (t + 1 + ll[k].length % 20) (ll.drop (k + 1)) := by
  rw [List.drop_eq_getElem_cons h, madeFrom]
theorem made_rise : ∀ (ll : List (List UInt8)) (t : Nat), t + 20 * ll.length ≤ 255 → riseFrom t (madeFrom t ll) = true
  | [], _, _ => rfl
  | x :: r, t, h => by
    simp only [List.length_cons] at h
    have := Nat.mod_lt x.length (show 0 < 20 by omega)
    simp only [madeFrom, riseFrom, Bool.and_eq_true, decide_eq_true_eq]
    exact ⟨⟨by omega, by omega⟩, made_rise r _ (by omega)⟩
theorem made_body : ∀ (ll : List (List UInt8)) (t : Nat), (bodyOf (madeFrom t ll)).length ≤ 3009 * ll.length
  | [], _ => by simp [madeFrom, bodyOf]
  | x :: r, t => by
    have ih := made_body r (t + 1 + x.length % 20)
    have e : bodyOf (madeFrom t (x :: r)) = secB (((t + 1 + x.length % 20 : Nat) : Int), x.take 3000) ++ bodyOf (madeFrom (t + 1 + x.length % 20) r) := by unfold bodyOf; simp [madeFrom]
    have hl : (x.take 3000).length ≤ 3000 := by rw [List.length_take]; omega
    have hs : (secB (((t + 1 + x.length % 20 : Nat) : Int), x.take 3000)).length ≤ 3009 := by
      have := digs_len8 (n := (x.take 3000).length) (by omega)
      unfold secB
      simp only [List.length_cons, List.length_append]
      omega
    rw [e, List.length_append, List.length_cons]
    omega
theorem made_data : ∀ (ll : List (List UInt8)) (t : Nat), ∀ s ∈ madeFrom t ll, s.2.length ≤ 3000
  | [], _, s, hs => by simp [madeFrom] at hs
  | x :: r, t, s, hs => by
    rcases List.mem_cons.1 hs with rfl | hs
    · simp; omega
    · exact made_data r _ s hs
theorem made_ok (ll : List (List UInt8)) (kind : Int) (h0 : 0 ≤ kind) (h1 : kind ≤ 255) : ∃ b, packE kind (madeE ll) = (b, 0) ∧ 11 ≤ b.length ∧ b.length ≤ 27100 := by
  have h9 : (ll.take 9).length ≤ 9 := by rw [List.length_take]; omega
  have hr := made_rise (ll.take 9) 0 (by omega)
  have hb := made_body (ll.take 9) 0
  have hp : packE kind (madeE ll) = (sealE (innerE kind.toNat (bodyOf (madeE ll))), 0) := by
    unfold packE
    rw [if_neg (by unfold madeE; rw [show ((0 : Int)) = ((0 : Nat) : Int) from rfl, hr]; simp; omega), if_neg (by unfold madeE; omega)]
  refine ⟨_, hp, ?_, ?_⟩ <;> (have := (pack_ok hp).2.2.2.2.2; unfold madeE at this ⊢; omega)

/-- A row of sections that a call made itself; their data lie in memory that was there before. -/
structure HalfS (w w0 : World) (base : Nat) (v : Value) (rs : List Row) : Prop where
  row : w.ownsRow base 41 2 v rs.length (rowCells rs)
  data : ∀ r ∈ rs, ∃ A c, r.2 = .slice A r.1.2.length c ∧ r.1.2.length ≤ c ∧ c ≤ maxLen ∧ Rd w0 A r.1.2
theorem HalfS.rd {w w0 : World} {base : Nat} {v : Value} {rs : List Row} (h : HalfS w w0 base v rs) (hb : Below w0.heap.size w0 w) : ∃ A n c, v = .slice A n c ∧ Hid ((rowsOf rs).length = n) ∧ n ≤ c ∧ c ≤ maxLen ∧ RdS w A (rowsOf rs) := by
  have hcells : ∀ (A : Option Addr), (∀ g, A = some (⟨g, 0, none⟩ : Addr) → v.ownBlock = some g) → (0 < rs.length → ∃ g, A = some (⟨g, 0, none⟩ : Addr)) → RdS w A (rowsOf rs) := fun A hA hs hl => by
    rw [rowsOf_len] at hl
    obtain ⟨g, rfl⟩ := hs hl
    refine ⟨_, rfl, fun j hj => ?_⟩
    have hj' : j < rs.length := by rw [rowsOf_len] at hj; exact hj
    have hrow : (rowsOf rs)[j] = rs[j].1 := by simp [rowsOf]
    rw [hrow]
    obtain ⟨e1, e2⟩ := rowCells_get rs j hj'
    obtain ⟨A', c', ev, h1, h2, hr⟩ := h.data rs[j] (List.getElem_mem hj')
    refine ⟨World.ownsRow.cells h.row (hA g rfl) (j * 2) _ e1, A', c', ?_, h1, h2, hr.below hb⟩
    rw [add_twice, World.ownsRow.cells h.row (hA g rfl) (j * 2 + 1) _ e2, ev]
  rcases h.row.2 with ⟨rfl, hn⟩ | ⟨g, cap, cur, rfl, _, _, hnc, hcm, _⟩
  · exact ⟨none, 0, 0, rfl, by rw [Hid, rowsOf_len]; exact hn, Nat.le_refl _, by simp [maxLen], hcells none (fun g h => by cases h) (fun h => by omega)⟩
  · exact ⟨some ⟨g, 0, none⟩, _, cap, rfl, rowsOf_len _, hnc, hcm, hcells _ (fun g' h => by cases h; rfl) (fun _ => ⟨g, rfl⟩)⟩

/-- Sections, in memory. -/
def GotMade (w : World) (ss : List Sec) (e : Ending) (w' : World) : Prop :=
  ∃ A n c, e = .returned (.slice A n c) ∧ Hid (ss.length = n) ∧ n ≤ c ∧ c ≤ maxLen ∧ RdS w' A ss ∧ Below w.heap.size w w'

set_option maxHeartbeats 2000000 in
set_option maxRecDepth 20000 in
theorem made_any (A : Option Addr) (n c : Nat) (ll : List (List UInt8)) (w : World) (hl : ll.length = n) (hr : RdC w A ll) (hn : n ≤ maxLen) :
    Calls Try.prog 25 #[.slice A n c] w (GotMade w (madeE ll)) := by
  unfold maxLen at hn
  have HL := Lib.hid hl
  clear hl
  obtain ⟨i0, hi, hz0, hz1, hz2⟩ := info_parts info_sec
  go_enter Try.func25, Try.ntmps25
  go_wp2_with fail
  go_loopw [3, 4, 5] (fun v tg i wr => ∃ (k t : Nat) (rs : List Row), k ≤ n ∧ k ≤ 9 ∧ rs.length = k ∧ t ≤ 20 * k ∧ tg = .int .i64 (t : Int) ∧ i = .int .i64 (k : Int) ∧ HalfS wr w w.heap.size v rs ∧ Hid (madeE ll = rowsOf rs ++ madeFrom t ((ll.take 9).drop k)) ∧ Below w.heap.size w wr)
    (fun _ _ i _ => n - (intOf i).toNat)
  case atStart => exact ⟨0, 0, [], Nat.zero_le _, by omega, rfl, by omega, rfl, rfl, ⟨World.ownsRow_nil _ _ _ _, fun r h => by simp at h⟩, rfl, Below.refl _ _⟩
  case round =>
    obtain ⟨k, t, rs, hkn, hk9, hrk, ht, rfl, rfl, hS, HM, hbl⟩ := hrel
    by_cases hlt : k < n
    · by_cases h9 : k < 9
      · have hk' : k < ll.length := by have := HL.out; omega
        obtain ⟨ad, Ak, m, cm, rfl, hcell, HLk, hmc, hcm, hrd⟩ := hr.at hk'
        have hadlt := World.block_lt_of_cell? _ _ hcell
        have hcell' := (hbl.cell hadlt).trans hcell
        obtain ⟨j, HJ, hj1, hj2, hmin⟩ := min_lit m 3000 3000 rfl
        unfold maxLen at hcm
        have hcut : ∀ W : World, (Instr.slice 24 (.slice Ak m cm) none (some (.int .i64 (j : Int))) none).run Try.prog W = .ok (.slice Ak j cm) W := fun W => by
          obtain ⟨i, hi, _, hs1, _⟩ := info_parts info_u8
          have he : Try.prog.elem 24 = 5 := by kernel_rfl
          rw [run_slice_h W 24 Ak m cm (by rw [he]; exact Try.underlying24) .i64 (j : Int) (by omega) (by omega)]
          simp [sizeOf, typeInfo, he, hi, hs1, sliced, Result.andThen]
          intro _
          cases Ak <;> simp [Addr.add]
        have hmod : m % 20 < 20 := Nat.mod_lt _ (by omega)
        have HRK := Lib.hid hrk
        have hrk9 : rs.length ≤ 9 := by omega
        clear hrk hcell
        have hb9 : decide ((k : Int) < 9) = true := by simp; omega
        go_wp2_with fail
        have hSd : wr.drew.ownsRow w.heap.size 41 2 u3 rs.length (rowCells rs) := World.ownsRow.kept hS.row (grown_of_below (Below.drew (Below.refl _ _)) none) (by cases hv : u3.ownBlock <;> simp)
        have hszl := hbl.size
        have hcd : wr.drew.cell? (ad.add k) = some (.slice Ak m cm) := hcell'
        go_region_held_law (fun w' => w'.cell? (ad.add k) = some (.slice Ak m cm)) (first | assumption | go_keep)
          ((refine step_append_lies _ (by rfl) _ _ 22 (by rfl) w.heap.size 41 i0 (.agg #[.int .i64 0, .slice none 0 0]) 2 32 Try.underlying22 hi hz0 hz1 hz2 rfl (by omega) u3 rs.length (rowCells rs) (by rfl) (World.ownsRow.alloc hSd _) ⟨wr.heap.size, 0, none⟩ 1 1 [.int .i64 ((t : Int) + 1 + (m : Int) % 20), .slice Ak j cm] (by rfl) (by rfl) (two_cells _ _ _ _ _ (by simp)) (by simp [Value.oneCell']) (by omega) (by simp only [maxLen]; omega) (by omega) (by simp; omega) _ rfl ?_; intro g cap w1 hown1 hgrow hat hlt2; have hcx : w1.cell? (ad.add k) = some (.slice Ak m cm) := (hgrow.cell_far (ad.add k) (by simp; omega) (fun e => by have h := (World.ownsRow.lt hSd _ e.symm).1; omega)).trans ((World.cell?_alloc_lt _ _ _ (show (ad.add k).block < wr.heap.size by omega)).trans hcd)))
        go_wp2_with fail
        have hjl : (ll[k].take 3000).length = j := by rw [List.length_take, HLk.out, HJ.out]; omega
        have hkt : k < (ll.take 9).length := by rw [List.length_take]; omega
        refine ⟨⟨k + 1, t + 1 + m % 20, rs ++ [(((t : Int) + 1 + (m : Int) % 20, ll[k].take 3000), .slice Ak j cm)], by omega, by omega, by rw [List.length_append, HRK.out]; rfl, by omega, by go_num, by go_num, ⟨by rw [List.length_append, rowCells_more]; exact hown1, fun r hr' => ?_⟩, ?_, bl_grown (bl_alloc hbl.drew _) hgrow (fun q hq => (World.ownsRow.lt hSd q hq).1)⟩, by simp [intOf]; omega⟩
        · rcases List.mem_append.1 hr' with h | h
          · exact hS.data r h
          · simp at h
            subst h
            exact ⟨Ak, cm, by rw [hjl], by rw [hjl]; omega, by simp only [maxLen]; omega, hrd.take 3000⟩
        · unfold Hid
          rw [HM.out, made_drop hkt]
          have e1 : (ll.take 9)[k] = ll[k] := List.getElem_take
          rw [e1, HLk.out]
          simp [rowsOf]
      · have hb9 : decide ((k : Int) < 9) = false := by simp; omega
        go_wp2_with fail
        go_ret
        obtain ⟨A', n', c', rfl, HL', h1, h2, h3⟩ := hS.rd hbl
        have e : madeE ll = rowsOf rs := by
          rw [HM.out, List.drop_of_length_le (by rw [List.length_take]; omega)]
          simp [madeFrom]
        rw [e]
        exact ⟨_, _, _, rfl, HL', h1, h2, h3, hbl⟩
    · go_wp2_with fail
      go_ret
      obtain ⟨A', n', c', rfl, HL', h1, h2, h3⟩ := hS.rd hbl
      have e : madeE ll = rowsOf rs := by
        rw [HM.out, List.drop_of_length_le (by rw [List.length_take]; have := HL.out; omega)]
        simp [madeFrom]
      rw [e]
      exact ⟨_, _, _, rfl, HL', h1, h2, h3, hbl⟩

end Go.Proofs.Ytlblcligjelbgaa
