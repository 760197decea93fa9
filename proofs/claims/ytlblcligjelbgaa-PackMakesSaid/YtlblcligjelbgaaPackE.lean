/- 'sections' of package pack: a contract over the translated program. -/
import Derived.Test.YtlblcligjelbgaaPackD
import Derived.Deep.RegionHeldLaw
set_option linter.unusedVariables false
namespace Go.Proofs.Ytlblcligjelbgaa
open Go.RowKit

/-- How many bytes the slice in a box has. -/
def boxLen (w : World) (p : Nat) : Nat := match w.cell? ⟨p, 0, none⟩ with
  | some (.slice _ n _) => n
  | _ => 0

/-- Sections, and an error's number. -/
def GotSecs (w : World) (o : Option (List Sec)) (e : Ending) (w' : World) : Prop :=
  ∃ v rs, e = .returned (.tuple #[v, .int .i64 (if o.isSome then 0 else 4)]) ∧ OwnS w' w.heap.size v rs ∧ Hid (rowsOf rs = o.getD []) ∧ Below w.heap.size w w'

theorem OwnS.far {w w' : World} {base p : Nat} {v : Value} {rs : List Row} (h : OwnS w base v rs) (hg : w.grownBy w' (some p)) (hp : p < base) : OwnS w' base v rs := by
  refine h.kept hg ?_ (fun r hr => ?_)
  · rcases hv : v.ownBlock with _ | k
    · exact .inl rfl
    · right
      intro e
      have := h.lt k hv
      cases e
      omega
  · rcases hv : r.2.ownBlock with _ | k
    · exact .inl rfl
    · right
      intro e
      have := (h.data r hr).lt k hv
      cases e
      omega

set_option maxHeartbeats 2000000 in
set_option maxRecDepth 20000 in
theorem sections_any (A0 : Option Addr) (n c : Nat) (l : List UInt8) (w : World) (hl : l.length = n) (hr : Rd w A0 l) (hnc : n ≤ c) (hc : c ≤ maxLen) (hn : n ≤ 262144) :
    Calls Try.prog 41 #[.slice A0 n c] w (GotSecs w (secsE 0 l)) := by
  have hmf : ∀ (fn : Fn) (first cap : Array Value) (w : World), (Instr.makeFunc fn first cap).run Try.prog w = .ok (.func fn first cap) w := fun _ _ _ _ => rfl
  have HL := Lib.hid hl
  clear hl
  obtain ⟨i0, hi, hz0, hz1, hz2⟩ := info_parts info_sec
  go_enter Try.func41, Try.ntmps41
  go_wp2_with fail
  go_loopw [5, 6] (fun v last wr => ∃ (rs : List Row) (la : Int) (A : Option Addr) (n' c' : Nat) (left : List UInt8), last = .int .i64 la ∧ OwnS wr (w.heap.size + 1) v rs ∧ wr.heap[w.heap.size]? = some (.cells #[.slice A n' c'] 24 (0, 0)) ∧ Hid (left.length = n') ∧ n' ≤ c' ∧ c' ≤ maxLen ∧ Rd wr A left ∧ Hid (secsE 0 l = (secsE la left).map (rowsOf rs ++ ·)) ∧ rs.length + n' ≤ n ∧ Below w.heap.size w wr)
    (fun _ _ wr => boxLen wr w.heap.size)
  case atStart =>
    refine ⟨[], 0, A0, n, c, l, rfl, OwnS.nil _ _, heap_alloc_new w _, HL, hnc, hc, hr.alloc _, ?_, by simp, bl_alloc (Below.refl _ _) _⟩
    unfold Hid
    cases secsE 0 l <;> simp [rowsOf]
  case round =>
    obtain ⟨rs, la, A, n', c', left, rfl, hS, hp, HL', hnc', hc', hr', HE, hroom, hbl⟩ := hrel
    clear hr
    have hbox : wr.cell? ⟨w.heap.size, 0, none⟩ = some (.slice A n' c') := by rw [cell_of_row wr _ _ _ _ _ hp]; rfl
    have hblen : Hid (boxLen wr w.heap.size = n') := by unfold Hid boxLen; rw [hbox]
    rcases left with _ | ⟨t, r⟩
    · have h0 : n' = 0 := by have := HL'.out; simpa using this.symm
      subst h0
      go_wp2_with fail
      go_ret2
      rw [HE.out, secsE_nil]
      exact ⟨_, rs, rfl, hS.lower (by omega), by unfold Hid; simp, hbl⟩
    · have hpos : 0 < n' := by have := HL'.out; simp at this; omega
      have hbt : decide ((0 : Int) < (n' : Int)) = true := by simp; omega
      have ht : t.toNat < 256 := t.toNat_lt
      have HX := Lib.hid (secsE_cons la t r)
      have HT := Lib.hid (took_any w.heap.size A n' c' t r wr hp HL'.out hr' hnc' hc' (by omega))
      have hrl := takeT_len r 262144
      generalize takeT r 262144 = q at *
      obtain ⟨d, rest, er⟩ := q
      dsimp only at HX HT hrl
      have hrl2 : rest.length < n' := by have := HL'.out; simp at this; omega
      clear hrl
      by_cases her : er = 0
      · subst her
        rcases hrise : (decide (la < (t.toNat : Int)) && decide ((t.toNat : Int) ≤ 255)) with _ | _
        · have HR := Lib.hid hrise
          clear hrise
          go_wp2_with fail
          refine (HT.out).mono ?_
          rintro e w2 ⟨v, u, rfl, hov, hou, hpe, hgr⟩
          obtain ⟨Av, nv, cv, rfl, _, _, _, _⟩ := hov.form
          go_wp2_with fail
          refine (rises_is HR.out _).mono ?_
          rintro e w3 ⟨rfl, rfl⟩
          go_wp2_with fail
          go_ret2
          have hB2 : Below w.heap.size w w2 := bl_grown hbl hgr (by simp)
          rw [HE.out, HX.out, if_pos (.inr (by have := HR.out; simp at this; omega))]
          exact ⟨_, [], rfl, OwnS.nil _ _, rfl, bl_alloc hB2 _⟩
        · have HR := Lib.hid hrise
          clear hrise
          have hxt : Hid (secsE la (t :: r) = (secsE t.toNat rest).map (((t.toNat : Int), d) :: ·)) := by
            unfold Hid
            rw [HX.out, if_neg]
            have := HR.out
            simp at this ⊢
            omega
          go_wp2_with fail
          refine (HT.out).mono ?_
          rintro e w2 ⟨v, u, rfl, hov, hou, hpe, hgr⟩
          obtain ⟨Av, nv, cv, rfl, _, _, _, _⟩ := hov.form
          have hB2 : Below w.heap.size w w2 := bl_grown hbl hgr (by simp)
          have hS2 := hS.far hgr (by omega)
          go_wp2_with fail
          refine (rises_is HR.out _).mono ?_
          rintro e w3 ⟨rfl, rfl⟩
          go_wp2_with fail
          have hszr := hgr.size
          have hszl := hbl.size
          have hwl : w.heap.size < wr.heap.size := by
            rcases Nat.lt_or_ge w.heap.size wr.heap.size with h | h
            · exact h
            · rw [Array.getElem?_eq_none h] at hp; cases hp
          have hSd : OwnS ((w2.alloc (.cells #[Value.int IntKind.i64 (t.toNat : Int), Value.slice Av nv cv] 41)).drew) (w.heap.size + 1) u5 rs := (hS2.below (bl_alloc (Below.refl _ _) _)).below (Below.drew (Below.refl _ _))
          have hW : Below w2.heap.size w2 ((w2.alloc (.cells #[Value.int IntKind.i64 (t.toNat : Int), Value.slice Av nv cv] 41)).drew.alloc (.cells #[Value.int IntKind.i64 (t.toNat : Int), Value.slice Av nv cv] 41)) := bl_alloc (Below.drew (bl_alloc (Below.refl _ _) _)) _
          obtain ⟨Au, nu, cu, rfl, HLu, hncu, hccu, _⟩ := hou.form
          have hov' := hov.below hW
          have hou' := hou.below hW
          have hSd' := hS2.below hW
          have hpe' := (hW.block w.heap.size (by omega)).trans hpe
          have hB' := bl_trans hB2 hW
          have hpl' : w.heap.size < ((w2.alloc (.cells #[Value.int IntKind.i64 (t.toNat : Int), Value.slice Av nv cv] 41)).drew.alloc (.cells #[Value.int IntKind.i64 (t.toNat : Int), Value.slice Av nv cv] 41)).heap.size := by have := hW.size; omega
          have hfar : ∀ k, u5.ownBlock = some k → k < w2.heap.size := fun k hk => (hS2.lt k hk).2
          go_region_law ((refine step_append_lies _ (by rfl) _ _ 22 (by rfl) (w.heap.size + 1) 41 i0 (.agg #[.int .i64 0, .slice none 0 0]) 2 32 Try.underlying22 hi hz0 hz1 hz2 rfl (by omega) u5 rs.length (rowCells rs) (by rfl) (World.ownsRow.alloc hSd.row _) ⟨w2.heap.size + 1, 0, none⟩ 1 1 [.int .i64 (t.toNat : Int), .slice Av nv cv] (by rfl) (by rfl) (two_cells _ _ _ _ _ (by simp)) (by simp [Value.oneCell']) (by omega) (by simp only [maxLen]; omega) (by omega) (by simp; omega) _ rfl ?_; intro g cap w1 hown1 hgrow hat hlt; have hcx : w1.cell? ⟨w2.heap.size, 0, none⟩ = some (.int .i64 (t.toNat : Int)) := (hgrow.cell_far ⟨w2.heap.size, 0, none⟩ (by simp; omega) (fun e => by have h := hfar w2.heap.size e.symm; omega)).trans (by simp)))
          all_goals
            go_wp2_with fail
            go_roundw
            case rel =>
              repeat apply Exists.intro
              refine ⟨?_, rfl⟩
              refine ⟨rs ++ [(((t.toNat : Int), d), Value.slice Av nv cv)], (t.toNat : Int), Au, nu, cu, rest, rfl, ?_, ?_, HLu, hncu, hccu, (hou'.kept hgrow (types_ne hou' hSd'.row)).rd, ?_, ?_, ?_⟩
              · exact hSd'.more (w0 := wr) hS.datalt hov' (by omega) hown1 hgrow
              · exact (hgrow.block _ hpl' (fun e => by have h := (hS2.lt w.heap.size e.symm).1; omega)).trans hpe'
              · unfold Hid
                rw [HE.out, hxt.out, Option.map_map]
                congr 1
                funext x
                simp [rowsOf]
              · have := HLu.out; simp; omega
              · exact bl_grown hB' hgrow (fun k hk => by have := (hS2.lt k hk).1; omega)
            case measure =>
              have e1 : w1.heap[w.heap.size]? = some (.cells #[.slice Au nu cu] 24 (0, 0)) := (hgrow.block _ hpl' (fun e => by have h := (hS2.lt w.heap.size e.symm).1; omega)).trans hpe'
              have e2 : boxLen w1 w.heap.size = nu := by unfold boxLen; rw [cell_of_row w1 _ _ _ _ _ e1]; rfl
              have := HLu.out
              rw [e2, hblen.out]
              omega
      · go_wp2_with fail
        refine (HT.out).mono ?_
        rintro e w2 ⟨v, u, rfl, hov, hou, hpe, hgr⟩
        obtain ⟨Av, nv, cv, rfl, _, _, _, _⟩ := hov.form
        have hbe : ((er : Int) != 0) = true := by simp; omega
        have hbe' : ((er : Int) == 0) = false := by simp; omega
        have hB2 : Below w.heap.size w w2 := bl_grown hbl hgr (by simp)
        go_wp2_with fail
        go_ret2
        rw [HE.out, HX.out, if_pos (.inl her)]
        exact ⟨_, [], rfl, OwnS.nil _ _, rfl, bl_alloc hB2 _⟩

end Go.Proofs.Ytlblcligjelbgaa
