/- Parse: read, with what is thrown and caught. No condition. -/
import Derived.Test.YtcgfogdfcdndgaaGreatDoorRgGQ
import Derived.Tactics
import Derived.Tactics2
import Derived.Defers
import Derived.Recover
set_option linter.unusedVariables false
set_option linter.unusedSimpArgs false
namespace Go.Proofs.YtcgfogdfcdndgaaGreatDoor
open Go.RowKit

/-- What read answers: all is read, or a refusal. -/
def ReadE : Res Rx → Res Rx
  | .ok t [] => .ok t []
  | .ok _ (x :: r) => .bad (x :: r)
  | .bad r => .bad r
  | .out => .out
def GotR (w : World) (s : List UInt8) : Res Rx → Ending → World → Prop
  | .ok t _ => fun e w' => ∃ v, e = .returned v ∧ w'.ownsRow w.heap.size 147 7 v t.size (cellsN (flat 0 t)) ∧ Below w.heap.size w w'
  | .bad r => Threw w w.heap.size s r
  | .out => fun _ _ => True
theorem new_reader (w : World) (s : List UInt8) (hs : s.length ≤ 1024) (w1 : World) (h : w1.heap[w.heap.size]? = some (.cells #[.string ⟨s.toArray⟩, .int .i64 0, .slice none 0 0] 143 (0, 0))) : RdAt w.heap.size w.heap.size s s [] w1 := by
  refine ⟨⟨.slice none 0 0, ?_, World.ownsRow_nil _ _ _ _, by simp [Value.ownBlock]⟩, Nat.le_refl _, ⟨[], rfl⟩, hs, by simp; omega⟩
  rw [Nat.sub_self]
  exact h

set_option maxRecDepth 20000 in
set_option maxHeartbeats 1000000 in
theorem read_any (s : List UInt8) (hs : s.length ≤ 1024) (f : Nat) (hf : parM f .ways s ≠ .out) (w : World) : Calls Tryz.prog 77 #[.string ⟨s.toArray⟩] w (GotR w s (ReadE (parM f .ways s))) := by
  have hlen := fun ty => len_at s #[9] ty rfl
  generalize hQ : GotR w s (ReadE (parM f .ways s)) = Q
  have HQ := Lib.hid hQ
  have HF := Lib.hid hf
  clear hQ hf
  go_enter Tryz.func77, Tryz.ntmps77
  go_wp2_with fail
  have hb1 := bl_alloc (Below.refl w.heap.size w) (.cells #[.string ⟨s.toArray⟩, .int .i64 0, .slice none 0 0] 143)
  have hr := new_reader w s hs _ (heap_alloc_new w (.cells #[.string ⟨s.toArray⟩, .int .i64 0, .slice none 0 0] 143))
  have HW := Lib.hid (ways_any f w.heap.size w.heap.size s s [] _ hr (by simp only [sizeM, List.length_nil]; omega) HF.out)
  have HB1 := Lib.hid hb1
  clear hb1 hr
  generalize w.alloc (.cells #[.string ⟨s.toArray⟩, .int .i64 0, .slice none 0 0] 143) = w1 at *
  refine HW.out.mono ?_
  intro e w2 hd
  cases hd1 : parM f .ways s with
  | out => exact absurd hd1 HF.out
  | bad r' =>
    rw [hd1] at hd
    obtain ⟨rfl, hb⟩ := hd
    have D1 := Lib.hid hd1
    have HB2 := Lib.hid (HB1.out.trans hb)
    clear hd1 hb
    go_wp2_with fail
    refine ⟨rfl, post_is HQ ?_⟩
    rw [D1.out]
    exact ⟨rfl, HB2.out⟩
  | ok t r1 =>
    rw [hd1] at hd
    obtain ⟨rfl, h2, hb⟩ := hd
    have D1 := Lib.hid hd1
    have HB2 := Lib.hid (HB1.out.trans hb)
    obtain ⟨k, HK, HL2, hk, c0, c1, f1, HX2⟩ := h2.cells
    obtain ⟨v, hg, hv, hne⟩ := h2.nodes
    have c2 : w2.cell? ⟨w.heap.size, 2, none⟩ = some v := by rw [cell_of_row w2 _ _ _ _ _ hg]; rfl
    rw [List.nil_append, List.length_nil, flat_len] at hv
    have HV := Lib.hid hv
    clear hd1 hb h2 hg hv hne HX2 HW
    cases r1 with
    | nil =>
      have hd0 : decide (k < s.length) = false := by have := HL2.out; simp at this; simp; omega
      go_wp2_with fail
      refine post_is HQ ?_
      rw [D1.out]
      exact ⟨v, rfl, HV.out, HB2.out⟩
    | cons x y =>
      have hd0 : decide (k < s.length) = true := by have := HL2.out; simp at this; simp; omega
      go_wp2_with fail
      refine ⟨rfl, post_is HQ ?_⟩
      rw [D1.out]
      exact ⟨by rw [← HK.out], HB2.out⟩

/-- What Parse answers. -/
def ParseE (s : List UInt8) : Res Rx → List RN × Nat × Nat
  | .ok t _ => if 256 < t.size then ([], 0, 5) else (flat 0 t, 0, 0)
  | .bad r => ([], s.length - r.length, 90)
  | .out => ([], 0, 0)
/-- Nodes that a call made itself. -/
def OwnR (w : World) (base : Nat) (v : Value) (l : List RN) : Prop := w.ownsRow base 147 7 v l.length (cellsN l)
def GotP (w : World) (x : List RN × Nat × Nat) (e : Ending) (w' : World) : Prop := ∃ v, e = .returned (.tuple #[.agg #[v], .int .i64 (x.2.1 : Int), .int .i64 (x.2.2 : Int)]) ∧ OwnR w' w.heap.size v x.1 ∧ Below w.heap.size w w'

theorem parse_results (tmps : Array Value) (W : World) (a b c : Nat) (v : Value) (n m : Int) (h2 : tmps.getD 2 undef = .pointer (some ⟨a, 0, none⟩)) (h3 : tmps.getD 3 undef = .pointer (some ⟨b, 0, none⟩)) (h4 : tmps.getD 4 undef = .pointer (some ⟨c, 0, none⟩))
    (c0 : W.cell? ⟨a, 0, none⟩ = some v) (c1 : W.cell? ⟨b, 0, none⟩ = some (.int .i64 n)) (c2 : W.cell? ⟨c, 0, none⟩ = some (.int .i64 m)) :
    (results Tryz.f50 tmps).run Tryz.prog W = .ok (.tuple #[.agg #[v], .int .i64 n, .int .i64 m]) W := by
  have g2 : tmps[2]?.getD undef = .pointer (some ⟨a, 0, none⟩) := by simpa using h2
  have g3 : tmps[3]?.getD undef = .pointer (some ⟨b, 0, none⟩) := by simpa using h3
  have g4 : tmps[4]?.getD undef = .pointer (some ⟨c, 0, none⟩) := by simpa using h4
  simp [results, Tryz.results50, go_sem, g2, g3, g4, c0, c1, c2]

/-- The closure, where nothing was thrown. -/
theorem catch_idle (a b c : Addr) (w : World) :
    CallsD Tryz.prog 76 #[.pointer (some a), .pointer (some b), .pointer (some c)] .returning w fun e u' w' => e = .returned (.tuple #[]) ∧ u' = .returning ∧ w' = w := by
  refine callsD_of_wpS Tryz.func76 rfl fun c₀ cs hu => ?_
  apply wpS_seq
  apply wpS_region
  simp [wpOpsS, go_sem, recoverD, hu, Tryz.ntmps76, Exit.thenS]
  refine wpS_of_wp ?_
  go_wp2
  cases c₀
  simp_all [bodyPostS, results, Tryz.results76]

/-- And where a refusal was. -/
theorem catch_thrown (n0 a b c : Nat) (n : Int) (x : Value) (w : World) (ha : w.cell? ⟨a, 0, none⟩ = some x) (hb : w.cell? ⟨b, 0, none⟩ = some (.int .i64 0)) (hc : w.cell? ⟨c, 0, none⟩ = some (.int .i64 0))
    (fa : w.frozen? ⟨a, 0, none⟩ = false) (fb : w.frozen? ⟨b, 0, none⟩ = false) (fc : w.frozen? ⟨c, 0, none⟩ = false) (hab : a < b) (hbc : b < c) (hn : n0 ≤ a) :
    CallsD Tryz.prog 76 #[.pointer (some ⟨a, 0, none⟩), .pointer (some ⟨b, 0, none⟩), .pointer (some ⟨c, 0, none⟩)] (.panicking [{ v := .iface 124 (.agg #[.int .i64 n]), recovered := false }]) w fun e u' w' =>
      e = .returned (.tuple #[]) ∧ u' = .panicking [{ v := .iface 124 (.agg #[.int .i64 n]), recovered := true }] ∧
      w'.cell? ⟨a, 0, none⟩ = some (.slice none 0 0) ∧ w'.cell? ⟨b, 0, none⟩ = some (.int .i64 n) ∧ w'.cell? ⟨c, 0, none⟩ = some (.int .i64 90) ∧ Below n0 w w' := by
  refine callsD_of_wpS Tryz.func76 rfl fun c₀ cs hu => ?_
  apply wpS_seq
  apply wpS_region
  simp [wpOpsS, go_sem, recoverD, hu, Tryz.ntmps76, Exit.thenS]
  have hba : ¬ b = a := by omega
  have hca : ¬ c = a := by omega
  have hcb : ¬ c = b := by omega
  have hab2 : ¬ a = b := by omega
  have hac : ¬ a = c := by omega
  have hbc2 : ¬ b = c := by omega
  have la := World.block_lt_of_cell? w _ ha
  have lb := World.block_lt_of_cell? w _ hb
  have lc := World.block_lt_of_cell? w _ hc
  have hfd : ∀ W : World, (Instr.field 124 (.agg #[.int .i64 n]) 0).run Tryz.prog W = .ok (.int .i64 n) W := fun W => by kernel_rfl
  have hta : ∀ W : World, (Instr.typeAssert (.iface 124 (.agg #[.int .i64 n])) 20 124 false).run Tryz.prog W = .ok (.agg #[.int .i64 n]) W := fun W => by kernel_rfl
  refine wpS_of_wp ?_
  go_wp2
  simp only [Array.replicate_succ, Array.replicate_zero, List.push_toArray, List.append_toArray, List.nil_append, List.cons_append, List.setIfInBounds_toArray, List.set_cons_zero, List.set_cons_succ]
  go_region
  refine ⟨rfl, _, rfl, .tuple #[], by simp [results, Tryz.results76], rfl, rfl, ?_, ?_, ?_, ?_⟩
  · simp [go_sem, ha, hb, hc, fa, fb, fc, hba, hca, hcb, hab2, hac, hbc2]
  · simp [go_sem, ha, hb, hc, fa, fb, fc, hba, hca, hcb, hab2, hac, hbc2]
  · simp [go_sem, ha, hb, hc, fa, fb, fc, hba, hca, hcb, hab2, hac, hbc2]
  · have g := ((grown_set w a 0 (.slice none 0 0)))
    have b1 : Below n0 w (w.setCell ⟨a, 0, none⟩ (.slice none 0 0)) := (Below.refl n0 w).grown (grown_set w a 0 _) (by omega) (fun k e => by cases e; exact hn)
    have b2 := b1.grown (grown_set (w.setCell ⟨a, 0, none⟩ (.slice none 0 0)) b 0 (.int .i64 n)) (by simp; omega) (fun k e => by cases e; omega)
    have b3 := b2.grown (grown_set ((w.setCell ⟨a, 0, none⟩ (.slice none 0 0)).setCell ⟨b, 0, none⟩ (.int .i64 n)) c 0 (.int .i64 90)) (by simp; omega) (fun k e => by cases e; omega)
    exact b3.trans ((bl_drewN (Below.refl _ _) 1).mono (by simp; omega))

set_option maxRecDepth 20000 in
set_option maxHeartbeats 1000000 in
theorem parse_short (s : List UInt8) (hs : s.length ≤ 1024) (f : Nat) (hf : parM f .ways s ≠ .out) (w : World) : Calls Tryz.prog 50 #[.string ⟨s.toArray⟩] w (GotP w (ParseE s (ReadE (parM f .ways s)))) := by
  have hlen := fun ty => len_at s #[9] ty rfl
  have hd1 : decide ((1024 : Int) < (s.length : Int)) = false := by simp; omega
  have hmf : ∀ (fn : Fn) (first cap : Array Value) (w : World), (Instr.makeFunc fn first cap).run Tryz.prog w = .ok (.func fn first cap) w := fun _ _ _ _ => rfl
  generalize hQ : GotP w (ParseE s (ReadE (parM f .ways s))) = Q
  have HQ := Lib.hid hQ
  have HF := Lib.hid hf
  clear hQ hf
  go_enter_defers Tryz.func50, Tryz.ntmps50
  go_wp2_with fail
  have hB1 := bl_alloc (bl_alloc (bl_alloc (Below.refl w.heap.size w) (.cells #[.slice none 0 0] 88)) (.cells #[.int .i64 0] 3)) (.cells #[.int .i64 0] 27)
  have c0 : (((w.alloc (.cells #[.slice none 0 0] 88)).alloc (.cells #[.int .i64 0] 3)).alloc (.cells #[.int .i64 0] 27)).heap[w.heap.size]? = some (.cells #[.slice none 0 0] 88 (0, 0)) := by
    rw [Below.heap_alloc _ _ _ (by simp; omega), Below.heap_alloc _ _ _ (by simp)]
    exact heap_alloc_new w _
  have c1 : (((w.alloc (.cells #[.slice none 0 0] 88)).alloc (.cells #[.int .i64 0] 3)).alloc (.cells #[.int .i64 0] 27)).heap[w.heap.size + 1]? = some (.cells #[.int .i64 0] 3 (0, 0)) := by
    rw [Below.heap_alloc _ _ _ (by simp)]
    have := heap_alloc_new (w.alloc (.cells #[.slice none 0 0] 88)) (.cells #[.int .i64 0] 3)
    rwa [World.size_alloc] at this
  have c2 : (((w.alloc (.cells #[.slice none 0 0] 88)).alloc (.cells #[.int .i64 0] 3)).alloc (.cells #[.int .i64 0] 27)).heap[w.heap.size + 1 + 1]? = some (.cells #[.int .i64 0] 27 (0, 0)) := by
    have := heap_alloc_new ((w.alloc (.cells #[.slice none 0 0] 88)).alloc (.cells #[.int .i64 0] 3)) (.cells #[.int .i64 0] 27)
    rwa [World.size_alloc, World.size_alloc] at this
  have hsz : (((w.alloc (.cells #[.slice none 0 0] 88)).alloc (.cells #[.int .i64 0] 3)).alloc (.cells #[.int .i64 0] 27)).heap.size = w.heap.size + 3 := by simp
  generalize ((w.alloc (.cells #[.slice none 0 0] 88)).alloc (.cells #[.int .i64 0] 3)).alloc (.cells #[.int .i64 0] 27) = w1 at *
  have HB1 := Lib.hid hB1
  have C0 := Lib.hid c0
  have C1 := Lib.hid c1
  have C2 := Lib.hid c2
  clear hB1 c0 c1 c2
  refine (read_any s hs f HF.out w1).mono ?_
  intro e w2 hd
  cases hd1 : ReadE (parM f .ways s) with
  | out =>
    exfalso
    have := HF.out
    cases hp : parM f .ways s with
    | out => exact this hp
    | bad r => rw [hp] at hd1; cases hd1
    | ok t r => rw [hp] at hd1; cases r <;> cases hd1
  | bad r' =>
    rw [hd1] at hd
    obtain ⟨rfl, hb⟩ := hd
    have D1 := Lib.hid hd1
    have k0 := (hb.block w.heap.size (by omega)).trans C0.out
    have k1 := (hb.block (w.heap.size + 1) (by omega)).trans C1.out
    have k2 := (hb.block (w.heap.size + 1 + 1) (by omega)).trans C2.out
    have HB2 := Lib.hid (HB1.out.trans (hb.mono (by omega)))
    have l2 := hb.size
    clear hd1 hb
    go_wp2_with fail
    refine leaves_cons (f := 76) (args := #[.pointer (some ⟨w.heap.size, 0, none⟩), .pointer (some ⟨w.heap.size + 1, 0, none⟩), .pointer (some ⟨w.heap.size + 1 + 1, 0, none⟩)]) (by simp) (by simp [invoke, go_sem]) ?_
    refine (catch_thrown w.heap.size w.heap.size (w.heap.size + 1) (w.heap.size + 1 + 1) ((s.length - r'.length : Nat) : Int) (.slice none 0 0) w2 (by rw [cell_of_row w2 _ _ _ _ _ k0]; rfl) (by rw [cell_of_row w2 _ _ _ _ _ k1]; rfl) (by rw [cell_of_row w2 _ _ _ _ _ k2]; rfl) (frozen_of_row w2 _ 0 _ _ k0) (frozen_of_row w2 _ 0 _ _ k1) (frozen_of_row w2 _ 0 _ _ k2) (by omega) (by omega) (Nat.le_refl _)).mono ?_
    rintro e u' w3 ⟨rfl, rfl, q0, q1, q2, b3⟩
    refine ⟨_, parse_results _ _ w.heap.size (w.heap.size + 1) (w.heap.size + 1 + 1) (.slice none 0 0) ((s.length - r'.length : Nat) : Int) 90 rfl rfl rfl q0 q1 q2, post_is HQ ?_⟩
    rw [D1.out]
    exact ⟨_, rfl, World.ownsRow_nil _ _ _ _, HB2.out.trans b3⟩
  | ok t r1 =>
    rw [hd1] at hd
    obtain ⟨v, rfl, hv, hb⟩ := hd
    have D1 := Lib.hid hd1
    have k0 := (hb.block w.heap.size (by omega)).trans C0.out
    have k1 := (hb.block (w.heap.size + 1) (by omega)).trans C1.out
    have k2 := (hb.block (w.heap.size + 1 + 1) (by omega)).trans C2.out
    have HB2 := Lib.hid (HB1.out.trans (hb.mono (by omega)))
    have l2 := hb.size
    obtain ⟨A, c, rfl⟩ : ∃ A c, v = .slice A t.size c := by
      rcases hv.2 with ⟨rfl, h0⟩ | ⟨q, cap, cur, rfl, _⟩
      · exact ⟨none, 0, by rw [h0]⟩
      · exact ⟨_, _, rfl⟩
    have HV := Lib.hid hv
    have K0 := Lib.hid k0
    have K1 := Lib.hid k1
    have K2 := Lib.hid k2
    have q0 : w2.cell? ⟨w.heap.size, 0, none⟩ = some (.slice none 0 0) := by rw [cell_of_row w2 _ _ _ _ _ k0]; rfl
    have q1 : w2.cell? ⟨w.heap.size + 1, 0, none⟩ = some (.int .i64 0) := by rw [cell_of_row w2 _ _ _ _ _ k1]; rfl
    have q2 : w2.cell? ⟨w.heap.size + 1 + 1, 0, none⟩ = some (.int .i64 0) := by rw [cell_of_row w2 _ _ _ _ _ k2]; rfl
    have f0 := frozen_of_row w2 w.heap.size 0 _ _ k0
    have f1 := frozen_of_row w2 (w.heap.size + 1) 0 _ _ k1
    have f2 := frozen_of_row w2 (w.heap.size + 1 + 1) 0 _ _ k2
    clear hd1 hb hv k0 k1 k2
    by_cases ht : 256 < t.size
    · have HT := Lib.hid ht
      have hdt : decide ((256 : Int) < (t.size : Int)) = true := by simp; omega
      clear ht
      go_wp2_with fail
      refine leaves_cons (f := 76) (args := #[.pointer (some ⟨w.heap.size, 0, none⟩), .pointer (some ⟨w.heap.size + 1, 0, none⟩), .pointer (some ⟨w.heap.size + 1 + 1, 0, none⟩)]) (by simp) (by simp [invoke, go_sem]) ?_
      refine (catch_idle _ _ _ _).mono ?_
      rintro e u' w3 ⟨rfl, rfl, rfl⟩
      refine ⟨_, parse_results _ _ w.heap.size (w.heap.size + 1) (w.heap.size + 1 + 1) (.slice none 0 0) 0 5 rfl rfl rfl (by simp [go_sem, q0, q1, q2]) (by simp [go_sem, q0, q1, q2]) (by simp [go_sem, q0, q1, q2]), post_is HQ ?_⟩
      rw [D1.out, ParseE, if_pos HT.out]
      refine ⟨_, rfl, World.ownsRow_nil _ _ _ _, ?_⟩
      have b1 := HB2.out.grown (grown_set w2 w.heap.size 0 (.slice none 0 0)) (by omega) (fun k e => by cases e; omega)
      have b2 := b1.grown (grown_set _ (w.heap.size + 1) 0 (.int .i64 0)) (by simp; omega) (fun k e => by cases e; omega)
      exact b2.grown (grown_set _ (w.heap.size + 1 + 1) 0 (.int .i64 5)) (by simp; omega) (fun k e => by cases e; omega)
    · have HT := Lib.hid ht
      have hdt : decide ((256 : Int) < (t.size : Int)) = false := by simp; omega
      clear ht
      go_wp2_with fail
      refine leaves_cons (f := 76) (args := #[.pointer (some ⟨w.heap.size, 0, none⟩), .pointer (some ⟨w.heap.size + 1, 0, none⟩), .pointer (some ⟨w.heap.size + 1 + 1, 0, none⟩)]) (by simp) (by simp [invoke, go_sem]) ?_
      refine (catch_idle _ _ _ _).mono ?_
      rintro e u' w3 ⟨rfl, rfl, rfl⟩
      refine ⟨_, parse_results _ _ w.heap.size (w.heap.size + 1) (w.heap.size + 1 + 1) (.slice A t.size c) 0 0 rfl rfl rfl (by simp [go_sem, q0, q1, q2]) (by simp [go_sem, q0, q1, q2]) (by simp [go_sem, q0, q1, q2]), post_is HQ ?_⟩
      rw [D1.out, ParseE, if_neg HT.out]
      have b1 := HB2.out.grown (grown_set w2 w.heap.size 0 (.slice A t.size c)) (by omega) (fun k e => by cases e; omega)
      have b2 := b1.grown (grown_set _ (w.heap.size + 1) 0 (.int .i64 0)) (by simp; omega) (fun k e => by cases e; omega)
      refine ⟨_, rfl, ?_, b2.grown (grown_set _ (w.heap.size + 1 + 1) 0 (.int .i64 0)) (by simp; omega) (fun k e => by cases e; omega)⟩
      have hlen2 : (flat 0 t).length = t.size := flat_len t 0
      unfold OwnR
      rw [hlen2]
      have ho : w2.ownsRow w.heap.size 147 7 (.slice A t.size c) t.size (cellsN (flat 0 t)) := by
        refine ⟨HV.out.1, ?_⟩
        rcases HV.out.2 with h2 | ⟨q, cap, cur, hv, hbg, r⟩
        · exact .inl h2
        · exact .inr ⟨q, cap, cur, hv, by omega, r⟩
      have hq : ∀ k, (Value.slice A t.size c).ownBlock = some k → w1.heap.size ≤ k := fun k e => (World.ownsRow.lt HV.out k e).1
      have hne : ∀ b, b < w1.heap.size → (Value.slice A t.size c).ownBlock = none ∨ (Value.slice A t.size c).ownBlock ≠ some b := fun b hb => by
        cases e : (Value.slice A t.size c).ownBlock with
        | none => exact .inl rfl
        | some k => exact .inr (fun e2 => by cases e2; have := hq _ e; omega)
      exact World.ownsRow.kept (World.ownsRow.kept (World.ownsRow.kept ho (grown_set w2 w.heap.size 0 _) (hne _ (by omega))) (grown_set _ (w.heap.size + 1) 0 _) (hne _ (by omega))) (grown_set _ (w.heap.size + 1 + 1) 0 _) (hne _ (by omega))

end Go.Proofs.YtcgfogdfcdndgaaGreatDoor

/- Check: whether a list of nodes is one tree. No condition. -/
set_option linter.unusedVariables false
set_option linter.unusedSimpArgs false
namespace Go.Proofs.YtcgfogdfcdndgaaGreatDoor
open Go.RowKit

/-- Numbers in memory. -/
def RdZ (w : World) (A : Option Addr) (bs : List Nat) : Prop := ∀ k (h : k < bs.length), ∃ ad, A = some ad ∧ w.cell? (ad.add k) = some (.int .i64 ((bs[k] : Nat) : Int))
theorem RdZ.below {w w' : World} {A : Option Addr} {bs : List Nat} (h : RdZ w A bs) (hb : Below w.heap.size w w') : RdZ w' A bs := fun k hk => by
  obtain ⟨ad, e, hc⟩ := h k hk
  exact ⟨ad, e, (hb.cell (World.block_lt_of_cell? w _ hc)).trans hc⟩
def GotBeg (w : World) : Option Nat → Ending → World → Prop
  | some i => fun e w' => e = .returned (.tuple #[.int .i64 (i : Int), .bool true]) ∧ Below w.heap.size w w'
  | none => fun e w' => (∃ z : Int, e = .returned (.tuple #[.int .i64 z, .bool false])) ∧ Below w.heap.size w w'
theorem int_ne {a b : Int} (h : ¬ a = b) : (a == b) = false := by simp [h]
theorem int_nb {a b : Int} (h : ¬ a = b) : (a != b) = true := by simp [h]
theorem int_eb (a : Int) : (a != a) = false := by simp
set_option maxRecDepth 20000 in
set_option maxHeartbeats 4000000 in
theorem begin_any (bs : List Nat) (n : RN) (A : Option Addr) (m c : Nat) (hm : bs.length = m) (w : World) (hr : RdZ w A bs) (hl : m ≤ 256) (hb : ∀ j (h : j < bs.length), bs[j] ≤ j) :
    Calls Tryz.prog 111 #[.slice A m c, aggR n] w (GotBeg w (begin1 bs n)) := by
  obtain ⟨kd, a, b, z0, z1, z2, z3⟩ := n
  generalize hQ : GotBeg w (begin1 bs ⟨kd, a, b, z0, z1, z2, z3⟩) = Q
  have HQ := Lib.hid hQ
  have HR := Lib.hid hr
  have HB := Lib.hid hb
  have HM := Lib.hid hm
  have hB := bl_alloc (Below.refl w.heap.size w) (.cells #[.int .i64 kd, dv z0, dv z1, dv z2, dv z3, .int .i64 a, .int .i64 b] 147)
  have HBL := Lib.hid hB
  have hsub : wrap64 ((m : Int) - 1) = (m : Int) - 1 := IntWalk.wrap64_in _ ⟨by omega, by omega⟩
  clear hQ hr hb hB hm
  show Calls Tryz.prog 111 #[.slice A m c, .agg #[.int .i64 kd, dv z0, dv z1, dv z2, dv z3, .int .i64 a, .int .i64 b]] w Q
  by_cases hk1 : kd = 1 ∨ kd = 2
  · by_cases ha : a = 0
    · subst ha
      by_cases hb : b = 0
      · subst hb
        rcases hk1 with rfl | rfl
        all_goals
          go_enter Tryz.func111, Tryz.ntmps111
          go_wp2_with (go_quiet (fail))
          refine post_is HQ ?_
          rw [begin1, if_pos (by simp), if_pos ⟨rfl, rfl⟩, HM.out]
          exact ⟨rfl, by first | exact HBL.out | exact bl_drewN HBL.out _ | exact bl_drewN (bl_drewN HBL.out _) _⟩
      · have hbb := int_ne hb
        have HBB := Lib.hid hb
        clear hb
        rcases hk1 with rfl | rfl
        all_goals
          go_enter Tryz.func111, Tryz.ntmps111
          go_wp2_with (go_quiet (fail))
          refine post_is HQ ?_
          rw [begin1, if_pos (by simp), if_neg (fun h => HBB.out h.2)]
          exact ⟨⟨_, rfl⟩, by first | exact HBL.out | exact bl_drewN HBL.out _ | exact bl_drewN (bl_drewN HBL.out _) _⟩
    · have haa := int_ne ha
      have HAA := Lib.hid ha
      clear ha
      rcases hk1 with rfl | rfl
      all_goals
        go_enter Tryz.func111, Tryz.ntmps111
        go_wp2_with (go_quiet (fail))
        refine post_is HQ ?_
        rw [begin1, if_pos (by simp), if_neg (fun h => HAA.out h.1)]
        exact ⟨⟨_, rfl⟩, by first | exact HBL.out | exact bl_drewN HBL.out _ | exact bl_drewN (bl_drewN HBL.out _) _⟩
  have n1 : (kd == 1) = false := int_ne (fun e => hk1 (Or.inl e))
  have n2 : (kd == 2) = false := int_ne (fun e => hk1 (Or.inr e))
  have HK1 := Lib.hid hk1
  clear hk1
  by_cases hk5 : kd = 5 ∨ kd = 6
  · by_cases hz : m = 0
    · subst hz
      rcases hk5 with rfl | rfl
      all_goals
        go_enter Tryz.func111, Tryz.ntmps111
        go_wp2_with (go_quiet (fail))
        refine post_is HQ ?_
        rw [begin1, if_neg HK1.out, if_pos (by simp), if_pos (Or.inl HM.out)]
        exact ⟨⟨_, rfl⟩, by first | exact HBL.out | exact bl_drewN HBL.out _ | exact bl_drewN (bl_drewN HBL.out _) _⟩
    have hz0 : ((m : Int) == 0) = false := by simp; omega
    have HZ := Lib.hid hz
    clear hz
    by_cases ha : a = (m : Int) - 1
    · subst ha
      have eb1 := int_eb ((m : Int) - 1)
      by_cases hb : b = 0
      · subst hb
        obtain ⟨ad, rfl, hcell⟩ := HR.out (m - 1) (by have := HM.out; have := HZ.out; omega)
        have hgd : bs.getD (m - 1) 0 = bs[m - 1]'(by have := HM.out; have := HZ.out; omega) := by rw [List.getD_eq_getElem?_getD, List.getElem?_eq_getElem]; rfl
        rw [← hgd] at hcell
        have hcl : (w.alloc (.cells #[.int .i64 kd, dv z0, dv z1, dv z2, dv z3, .int .i64 ((m : Int) - 1), .int .i64 0] 147)).cell? (ad.add (m - 1)) = some (.int .i64 ((bs.getD (m - 1) 0 : Nat) : Int)) := (World.cell?_alloc_lt _ _ _ (World.block_lt_of_cell? w _ hcell)).trans hcell
        have HGD := Lib.hid hgd
        have hi1 : (0 : Int) ≤ (m : Int) - 1 := by have := HZ.out; omega
        have hi2 : (m : Int) - 1 < (m : Int) := by omega
        have htn : ((m : Int) - 1).toNat = m - 1 := by omega
        clear hcell hgd
        generalize hv : bs.getD (m - 1) 0 = v at *
        have HV := Lib.hid hv
        clear hv
        rcases hk5 with rfl | rfl
        all_goals
          go_enter Tryz.func111, Tryz.ntmps111
          go_wp2_with (go_quiet (fail))
          refine post_is HQ ?_
          rw [begin1, if_neg HK1.out, if_pos (by simp), if_neg (by rw [HM.out]; have := HZ.out; simp; exact this), HM.out, HV.out]
          exact ⟨rfl, by first | exact HBL.out | exact bl_drewN HBL.out _ | exact bl_drewN (bl_drewN HBL.out _) _⟩
      · have hbb := int_nb hb
        have HBB := Lib.hid hb
        clear hb
        rcases hk5 with rfl | rfl
        all_goals
          go_enter Tryz.func111, Tryz.ntmps111
          go_wp2_with (go_quiet (fail))
          refine post_is HQ ?_
          rw [begin1, if_neg HK1.out, if_pos (by simp), if_pos (Or.inr (Or.inr HBB.out))]
          exact ⟨⟨_, rfl⟩, by first | exact HBL.out | exact bl_drewN HBL.out _ | exact bl_drewN (bl_drewN HBL.out _) _⟩
    · have haa := int_nb ha
      have HAA := Lib.hid ha
      clear ha
      rcases hk5 with rfl | rfl
      all_goals
        go_enter Tryz.func111, Tryz.ntmps111
        go_wp2_with (go_quiet (fail))
        refine post_is HQ ?_
        rw [begin1, if_neg HK1.out, if_pos (by simp), if_pos (Or.inr (Or.inl (by rw [HM.out]; exact HAA.out)))]
        exact ⟨⟨_, rfl⟩, by first | exact HBL.out | exact bl_drewN HBL.out _ | exact bl_drewN (bl_drewN HBL.out _) _⟩
  have n5 : (kd == 5) = false := int_ne (fun e => hk5 (Or.inl e))
  have n6 : (kd == 6) = false := int_ne (fun e => hk5 (Or.inr e))
  have HK5 := Lib.hid hk5
  clear hk5
  by_cases hk3 : kd = 3 ∨ kd = 4
  · by_cases hz : m = 0
    · subst hz
      rcases hk3 with rfl | rfl
      all_goals
        go_enter Tryz.func111, Tryz.ntmps111
        go_wp2_with (go_quiet (fail))
        refine post_is HQ ?_
        rw [begin1, if_neg HK1.out, if_neg HK5.out, if_pos (by simp), if_pos (Or.inl HM.out)]
        exact ⟨⟨_, rfl⟩, by first | exact HBL.out | exact bl_drewN HBL.out _ | exact bl_drewN (bl_drewN HBL.out _) _⟩
    have hz0 : ((m : Int) == 0) = false := by simp; omega
    have HZ := Lib.hid hz
    clear hz
    by_cases hb : b = (m : Int) - 1
    · subst hb
      have eb1 := int_eb ((m : Int) - 1)
      obtain ⟨ad, rfl, hcell⟩ := HR.out (m - 1) (by have := HM.out; have := HZ.out; omega)
      have hgd : bs.getD (m - 1) 0 = bs[m - 1]'(by have := HM.out; have := HZ.out; omega) := by rw [List.getD_eq_getElem?_getD, List.getElem?_eq_getElem]; rfl
      rw [← hgd] at hcell
      have hcl : (w.alloc (.cells #[.int .i64 kd, dv z0, dv z1, dv z2, dv z3, .int .i64 a, .int .i64 ((m : Int) - 1)] 147)).cell? (ad.add (m - 1)) = some (.int .i64 ((bs.getD (m - 1) 0 : Nat) : Int)) := (World.cell?_alloc_lt _ _ _ (World.block_lt_of_cell? w _ hcell)).trans hcell
      have HGD := Lib.hid hgd
      have hi1 : (0 : Int) ≤ (m : Int) - 1 := by have := HZ.out; omega
      have hi2 : (m : Int) - 1 < (m : Int) := by omega
      have htn : ((m : Int) - 1).toNat = m - 1 := by omega
      clear hcell hgd
      have hle : bs.getD (m - 1) 0 ≤ m - 1 := by rw [HGD.out]; exact HB.out _ _
      generalize hv : bs.getD (m - 1) 0 = v at *
      have HV := Lib.hid hv
      clear hv
      by_cases hv0 : v = 0
      · have HV0 := Lib.hid hv0
        have hv1 : ((v : Int) == 0) = true := by rw [hv0]; rfl
        clear hv0
        rcases hk3 with rfl | rfl
        all_goals
          go_enter Tryz.func111, Tryz.ntmps111
          go_wp2_with (go_quiet (fail))
          refine post_is HQ ?_
          rw [begin1, if_neg HK1.out, if_neg HK5.out, if_pos (by simp), if_pos (Or.inr (Or.inr (Or.inl (by rw [HM.out, HV.out]; exact HV0.out))))]
          exact ⟨⟨_, rfl⟩, by first | exact HBL.out | exact bl_drewN HBL.out _ | exact bl_drewN (bl_drewN HBL.out _) _⟩
      have hv1 : ((v : Int) == 0) = false := by simp; omega
      have hsv : wrap64 ((v : Int) - 1) = (v : Int) - 1 := IntWalk.wrap64_in _ ⟨by omega, by omega⟩
      have HV0 := Lib.hid hv0
      clear hv0
      by_cases ha : a = (v : Int) - 1
      · subst ha
        have eb2 := int_eb ((v : Int) - 1)
        obtain ⟨ad', e', hcell⟩ := HR.out (v - 1) (by have := HM.out; have := HZ.out; have := HV0.out; omega)
        cases e'
        have hgd : bs.getD (v - 1) 0 = bs[v - 1]'(by have := HM.out; have := HZ.out; have := HV0.out; omega) := by rw [List.getD_eq_getElem?_getD, List.getElem?_eq_getElem]; rfl
        rw [← hgd] at hcell
        have hcl2 : (w.alloc (.cells #[.int .i64 kd, dv z0, dv z1, dv z2, dv z3, .int .i64 ((v : Int) - 1), .int .i64 ((m : Int) - 1)] 147)).cell? (ad.add (v - 1)) = some (.int .i64 ((bs.getD (v - 1) 0 : Nat) : Int)) := (World.cell?_alloc_lt _ _ _ (World.block_lt_of_cell? w _ hcell)).trans hcell
        have hj1 : (0 : Int) ≤ (v : Int) - 1 := by have := HV0.out; omega
        have hj2 : (v : Int) - 1 < (m : Int) := by have := HZ.out; omega
        have hjn : ((v : Int) - 1).toNat = v - 1 := by omega
        clear hcell hgd
        generalize hu : bs.getD (v - 1) 0 = u at *
        have HU := Lib.hid hu
        clear hu
        rcases hk3 with rfl | rfl
        all_goals
          go_enter Tryz.func111, Tryz.ntmps111
          go_wp2_with (go_quiet (fail))
          refine post_is HQ ?_
          rw [begin1, if_neg HK1.out, if_neg HK5.out, if_pos (by simp), if_neg (by rw [HM.out, HV.out]; have := HZ.out; have := HV0.out; simp; exact ⟨by assumption, by assumption⟩), HM.out, HV.out, HU.out]
          exact ⟨rfl, by first | exact HBL.out | exact bl_drewN HBL.out _ | exact bl_drewN (bl_drewN HBL.out _) _⟩
      · have haa := int_nb ha
        have HAA := Lib.hid ha
        clear ha
        rcases hk3 with rfl | rfl
        all_goals
          go_enter Tryz.func111, Tryz.ntmps111
          go_wp2_with (go_quiet (fail))
          refine post_is HQ ?_
          rw [begin1, if_neg HK1.out, if_neg HK5.out, if_pos (by simp), if_pos (Or.inr (Or.inr (Or.inr (by rw [HM.out, HV.out]; exact HAA.out))))]
          exact ⟨⟨_, rfl⟩, by first | exact HBL.out | exact bl_drewN HBL.out _ | exact bl_drewN (bl_drewN HBL.out _) _⟩
    · have hbb := int_nb hb
      have HBB := Lib.hid hb
      clear hb
      rcases hk3 with rfl | rfl
      all_goals
        go_enter Tryz.func111, Tryz.ntmps111
        go_wp2_with (go_quiet (fail))
        refine post_is HQ ?_
        rw [begin1, if_neg HK1.out, if_neg HK5.out, if_pos (by simp), if_pos (Or.inr (Or.inl (by rw [HM.out]; exact HBB.out)))]
        exact ⟨⟨_, rfl⟩, by first | exact HBL.out | exact bl_drewN HBL.out _ | exact bl_drewN (bl_drewN HBL.out _) _⟩
  have n3 : (kd == 3) = false := int_ne (fun e => hk3 (Or.inl e))
  have n4 : (kd == 4) = false := int_ne (fun e => hk3 (Or.inr e))
  have HK3 := Lib.hid hk3
  clear hk3
  go_enter Tryz.func111, Tryz.ntmps111
  go_wp2_with (go_quiet (fail))
  refine post_is HQ ?_
  rw [begin1, if_neg HK1.out, if_neg HK5.out, if_neg HK3.out]
  exact ⟨⟨_, rfl⟩, by first | exact HBL.out | exact bl_drewN HBL.out _ | exact bl_drewN (bl_drewN HBL.out _) _⟩

end Go.Proofs.YtcgfogdfcdndgaaGreatDoor
