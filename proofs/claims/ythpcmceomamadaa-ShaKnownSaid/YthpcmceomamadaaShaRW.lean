/- The document's own digits: digit, worth, Hex, Parse. No condition. -/
import Derived.Test.YthpcmceomamadaaShaX
import Derived.Deep.RegionHeldLaw
import Derived.StillTailTactics
import Derived.Deep.RegionHeld3
set_option linter.unusedVariables false
set_option linter.unusedSimpArgs false
namespace Go.Proofs.Ythpcmceomamadaa
open Go.RowKit

def GotU8 (w : World) (c : UInt8) (e : Ending) (w' : World) : Prop := e = .returned (.int .u8 (c.toNat : Int)) ∧ w = w'

set_option maxHeartbeats 1000000 in
theorem refDigit_any (n : Nat) (hn : n < 16) (w : World) : Calls Try.prog 66 #[.int .i64 (n : Int)] w (GotU8 w (dg n)) := by
  by_cases h : n < 10
  · go_enter Try.func66, Try.ntmps66
    go_wp2
    go_ret
    refine ⟨?_, rfl⟩
    unfold dg
    rw [if_pos h, UInt8.toNat_ofNat']
    have e : ((48 + n) % 2 ^ 8 : Nat) = 48 + n := by omega
    rw [e]
    rfl
  · have hge : ¬ (n : Int) < 10 := by omega
    go_enter Try.func66, Try.ntmps66
    go_wp2
    go_ret
    refine ⟨?_, rfl⟩
    unfold dg
    rw [if_neg h, UInt8.toNat_ofNat']
    have e : ((87 + n) % 2 ^ 8 : Nat) = 87 + n := by omega
    rw [e]
    rfl

/-- What 'worth' answers. -/
def worthZ (c : UInt8) : Int := match worthE c with | some n => (n : Int) | none => -1
theorem dg_iff (c : UInt8) (n : Nat) (hn : n < 16) : dg n = c ↔ worthE c = some n := by
  constructor
  · intro h
    subst h
    exact worth_dg n hn
  · exact dg_of

set_option maxHeartbeats 1000000 in
theorem refWorth_any (c : UInt8) (w : World) : Calls Try.prog 65 #[.int .u8 (c.toNat : Int)] w fun e w' => e = .returned (.int .i64 (worthZ c)) ∧ w = w' := by
  go_enter Try.func65, Try.ntmps65
  go_wp2
  go_loop [3] (fun i => ∃ n : Nat, n ≤ 16 ∧ i = .int .i64 (n : Int) ∧ Hid (∀ j, j < n → worthE c ≠ some j)) (fun i => 16 - (intOf i).toNat)
  case atStart => exact ⟨0, by omega, rfl, fun j hj => by omega⟩
  case round =>
    obtain ⟨n, hn, rfl, HJ⟩ := hrel
    by_cases hlt : n < 16
    · obtain ⟨d, hd⟩ : ∃ d, dg n = d := ⟨_, rfl⟩
      have hR := fun W => refDigit_any n hlt W
      rw [hd] at hR
      have HR := Lib.hid hR
      have HD := Lib.hid hd
      clear hR hd
      by_cases hc : d = c
      · have hb : ((d.toNat : Int) == (c.toNat : Int)) = true := by simp [hc]
        have HC := Lib.hid hc
        clear hc
        go_wp2_with fail
        refine (HR.out _).mono ?_
        rintro e w1 ⟨rfl, rfl⟩
        go_wp2
        go_ret
        refine ⟨?_, rfl⟩
        have h := (dg_iff c n hlt).1 (by rw [HD.out]; exact HC.out)
        unfold worthZ
        rw [h]
        rfl
      · have hb : ((d.toNat : Int) == (c.toNat : Int)) = false := by
          simp only [beq_eq_false_iff_ne, ne_eq]
          intro h
          exact hc (UInt8.toNat_inj.1 (by omega))
        have HC := Lib.hid hc
        clear hc
        go_wp2_with fail
        refine (HR.out _).mono ?_
        rintro e w1 ⟨rfl, rfl⟩
        go_wp2
        refine ⟨⟨n + 1, by omega, by go_num, fun j hj => ?_⟩, by simp [intOf]; omega⟩
        by_cases e : j = n
        · subst e
          intro h
          exact HC.out (by rw [← HD.out]; exact (dg_iff c j hlt).2 h)
        · exact HJ.out j (by omega)
    · obtain rfl : n = 16 := by omega
      go_wp2
      go_ret
      refine ⟨?_, rfl⟩
      unfold worthZ
      cases h : worthE c with
      | none => rfl
      | some k => exact absurd h (HJ.out k (worth_lt h))

set_option maxHeartbeats 2000000 in
set_option maxRecDepth 100000 in
theorem refHex_any (f : Nat → UInt8) (w : World) : Calls Try.prog 50 #[.agg (rowB 32 f)] w (GotS w (hexE f)) := by
  have hb1 : Hb (w.alloc (.cells (rowB 32 f) 37)) w.heap.size 37 32 f := heap_alloc_new w _
  have H1 := Lib.hid hb1
  clear hb1
  go_enter Try.func50, Try.ntmps50
  go_wp2
  go_loopw [3, 4] (fun v i wr => ∃ k : Nat, k ≤ 32 ∧ i = .int .i64 k ∧ Own wr (w.heap.size + 1) v (hexL f k) ∧ Hb wr w.heap.size 37 32 f ∧ Below w.heap.size w wr) (fun _ i _ => 32 - (intOf i).toNat)
  case atStart => exact ⟨0, by omega, rfl, Own.nil _ _, H1.out, bl_alloc (Below.refl _ _) _⟩
  case round =>
    clear H1
    obtain ⟨k, hk, rfl, ho, h1, hB⟩ := hrel
    obtain ⟨A, n, c, rfl, HLn, hnc, hc, hrd⟩ := ho.form
    have hn64 : n ≤ 64 := by rw [← HLn.out, hexL_len]; omega
    by_cases hlt : k < 32
    · obtain ⟨q, hq⟩ : ∃ q, (f k).toNat / 16 = q := ⟨_, rfl⟩
      obtain ⟨r, hr⟩ : ∃ q, (f k).toNat % 16 = q := ⟨_, rfl⟩
      have hb := (f k).toNat_lt
      have q16 : q < 16 := by omega
      have r16 : r < 16 := by omega
      have e1 : ((f k).toNat : Int) / 16 = (q : Int) := by omega
      have e2 : ((f k).toNat : Int) % 16 = (r : Int) := by omega
      have e3 : ((f k).toNat : Int).tdiv 16 = (q : Int) := by rw [Int.tdiv_eq_ediv_of_nonneg (by omega)]; exact e1
      have e4 : ((f k).toNat : Int).tmod 16 = (r : Int) := by rw [Int.tmod_eq_emod_of_nonneg (by omega)]; exact e2
      have hck := h1.cell hlt
      have hbs := hB.size
      have hlt1 := h1.lt
      have HQ := Lib.hid hq
      have HR := Lib.hid hr
      have HO := Lib.hid ho
      have HB := Lib.hid hB
      have HH := Lib.hid h1
      have hd : Below wr.heap.size wr (wr.drew.alloc (.cells #[.int .u8 ((dg q).toNat : Int), .int .u8 ((dg r).toNat : Int)] 5)) := bl_alloc (Below.drew (Below.refl _ _)) _
      have ho2 := ho.below hd
      have hr2 : Rd (wr.drew.alloc (.cells #[.int .u8 ((dg q).toNat : Int), .int .u8 ((dg r).toNat : Int)] 5)) (some ⟨wr.heap.size, 0, none⟩) [dg q, dg r] := Rd.litF wr.drew [dg q, dg r] (0, 0)
      have HO2 := Lib.hid ho2
      have HR2 := Lib.hid hr2
      have HD := Lib.hid hd
      clear hq hr ho hB hrd h1 ho2 hr2 hd
      go_wp2
      have hckd : wr.drew.cell? ⟨w.heap.size, k, none⟩ = some (.int .u8 ((f k).toNat : Int)) := hck
      have hszz : w.heap.size + 1 ≤ wr.heap.size := hlt1
      have D1 := Lib.hid (fun W => refDigit_any q q16 W)
      have D2 := Lib.hid (fun W => refDigit_any r r16 W)
      have L1 : Hid ((hexL f k).length + [dg q, dg r].length ≤ 200000000000000) := by show _ ≤ _; rw [HLn.out]; simp; omega
      have L2 : Hid (w.heap.size + 1 ≤ (wr.drew.alloc (.cells #[.int .u8 ((dg q).toNat : Int), .int .u8 ((dg r).toNat : Int)] 5)).heap.size) := by show _ ≤ _; simp; omega
      have w1 : IntKind.i64.wrap ((f k).toNat : Int) = ((f k).toNat : Int) := IntWalk.i64_in _ (by omega)
      have w2 : IntKind.i64.wrap (q : Int) = (q : Int) := IntWalk.i64_in _ (by omega)
      have w3 : IntKind.i64.wrap (r : Int) = (r : Int) := IntWalk.i64_in _ (by omega)
      go_region_law (first
        | (go_simp; go_at_call 66; first | ((with_reducible refine (D1.out _).mono ?_); rintro e w' ⟨rfl, rfl⟩) | ((with_reducible refine (D2.out _).mono ?_); rintro e w' ⟨rfl, rfl⟩))
        | (refine step_append_bytes _ (by rfl) _ _ (by rfl) (w.heap.size + 1) _ (hexL f k) (by rfl) HO2.out _ 2 2 [dg q, dg r] (by rfl) rfl HR2.out L1.out L2.out ?_; intro v3 w4 ho3 hg3 _))
      all_goals
        clear w1 w2 w3 e1 e2 e3 e4
        go_wp2
        refine ⟨⟨k + 1, by omega, by go_num, ?_, ?_, bl_grown (bl_trans HB.out HD.out) hg3 (fun j hj => by have := (HO.out.lt j hj).1; omega)⟩, by simp [intOf]; omega⟩
        · rw [hexL, HQ.out, HR.out]
          exact ho3
        · have hx := HH.out.below HD.out
          exact (hg3.block _ (by simp; omega) (fun e => by have h := (HO.out.lt _ e.symm).1; omega)).trans hx
    · obtain rfl : k = 32 := by omega
      have hs := string_of wr A n c (hexL f 32) HLn.out hrd
      have HB := Lib.hid hB
      clear ho hB hrd h1
      go_wp2
      go_ret
      exact ⟨rfl, HB.out⟩

end Go.Proofs.Ythpcmceomamadaa
