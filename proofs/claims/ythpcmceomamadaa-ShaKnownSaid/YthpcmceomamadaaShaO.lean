/- Of of the program: blocks that slices.Chunk tells, one by one. No condition but that the bytes can be read, and are 5000 at most. -/
import Derived.Test.YthpcmceomamadaaShaP
set_option linter.unusedVariables false
set_option linter.unusedSimpArgs false
namespace Go.Proofs.Ythpcmceomamadaa
open Go.RowKit Go.Shelf
attribute [local go_sem] Oper.semAt_some

set_option maxRecDepth 20000 in
theorem chunk_make (A : Option Addr) (n c : Nat) (w : World) : Calls Try.prog 39 #[.slice A n c, .int .i64 64] w fun e w' =>
    e = .returned (.func (.func 58) #[] #[.pointer (some ⟨w.heap.size, 0, none⟩), .pointer (some ⟨w.heap.size + 1, 0, none⟩)]) ∧
      w' = (w.alloc (.cells #[.slice A n c] 28)).alloc (.cells #[.int .i64 64] 3) := by
  go_enter Try.func39, Try.ntmps39
  go_wp2
  go_ret
  exact ⟨rfl, rfl⟩

/-- The k-th block of bytes at ad. -/
def encC (ad : Addr) {m : Nat} (x : Fin m) : Array Value := #[.slice (some (ad.add (64 * x.1))) 64 64]

/-- 'p[s : s + 64 : s + 64]'. -/
theorem cut_three (ad : Addr) (n c s t : Nat) (ht : t = s + 64) (hn : t ≤ n) (hc : n ≤ c) (W : World) :
    (Instr.slice 28 (.slice (some ad) n c) (some (.int .i64 (s : Int))) (some (.int .i64 (t : Int))) (some (.int .i64 (t : Int)))).run Try.prog W = .ok (.slice (some (ad.add s)) 64 64) W := by
  obtain ⟨i, hi, _, hs1, _⟩ := info_parts info_u8
  have he : Try.prog.elem 28 = 5 := by kernel_rfl
  have h1 : t ≤ c := by omega
  have h2 : s ≤ t := by omega
  have hb : (Instr.sliceBounds true n c (some (.int .i64 (s : Int))) (some (.int .i64 (t : Int))) (some (.int .i64 (t : Int)))).run Try.prog W = .ok (s, t, t) W := by
    simp [Instr.sliceBounds, go_sem, h1, h2]
  rw [run_slice_any W 28 (some ad) n c (by rw [he]; exact Try.underlying28), hb]
  have h3 : ¬ t = s := by omega
  have h4 : t - s = 64 := by omega
  simp [sizeOf, typeInfo, he, hi, hs1, sliced, Result.andThen, h3, h4]

/-- What a round of a loop over blocks may read again: all but one block. -/
theorem min_one (z : Int) (h : 64 ≤ z) (ts : Array TypeId) (t : TypeId) (W : World) : (Builtin.min_ ts t #[.int .i64 64, .int .i64 z]).run Try.prog W = .ok (.int .i64 64) W := by
  rw [run_min_int2]
  have e : (if z < 64 then z else 64) = (64 : Int) := by split <;> omega
  rw [e]

/-- 'p[s:]'. -/
theorem cut_low (ad : Addr) (n c s r : Nat) (hr : n - s = r) (hs : s < n) (hnc : n ≤ c) (W : World) : (Instr.slice 28 (.slice (some ad) n c) (some (.int .i64 (s : Int))) none none).run Try.prog W = .ok (.slice (some (ad.add s)) r (c - s)) W := by
  subst hr
  obtain ⟨i, hi, _, hs1, _⟩ := info_parts info_u8
  have he : Try.prog.elem 28 = 5 := by kernel_rfl
  rw [run_slice_l W 28 (some ad) n c (by rw [he]; exact Try.underlying28) .i64 s (by omega) (by omega)]
  have h3 : ¬ c = s := by omega
  simp [sizeOf, typeInfo, he, hi, hs1, sliced, Result.andThen, h3]

set_option maxRecDepth 100000 in
set_option maxHeartbeats 2000000 in
theorem chunk_loop (d m l Bs Bn n1 hB n c : Nat) (ad : Addr) (hm : 2 ≤ d) (hn : n = 64 * m) (hnm : n ≤ 100000) (hnc : n ≤ c) (h1 : Bs < n1) (h2 : Bs ≠ hB) (h3 : Bn < n1) (h4 : Bn ≠ hB) (J Jx : List (Fin m) → World → Prop)
    (hY : ∀ pre x W, J pre W → pre.length < m → YieldAt Fence.wide (d - 1) Try.prog l (encC ad x) W fun e W' =>
      (e = .returned (.bool true) ∧ J (pre ++ [x]) W' ∧ KpX n1 hB W W') ∨ (e = .returned (.bool false) ∧ Jx (pre ++ [x]) W'))
    (W : World) (hBs : W.cell? ⟨Bs, 0, none⟩ = some (.slice (some ad) n c)) (hBn : W.cell? ⟨Bn, 0, none⟩ = some (.int .i64 64)) (h0 : J [] W) (hdr : ∀ pre W, J pre W → J pre W.drew) :
    CallsIn Fence.wide d Try.prog 58 #[.func (.yield l) #[] #[], .pointer (some ⟨Bs, 0, none⟩), .pointer (some ⟨Bn, 0, none⟩)] W fun e W' => (∃ v, e = .returned v) ∧
      ((∃ xs, xs = List.finRange m ∧ J xs W') ∨ (∃ pre, (∃ k, k ≤ m ∧ pre = (List.finRange m).take k) ∧ Jx pre W')) := by
  have hm1 : 1 ≤ d := by omega
  refine callsIn_of_wp Try.func58 rfl trivial ?_ rfl
  simp only [Try.ntmps58, List.size_toArray, List.length_cons, List.length_nil, Nat.reduceAdd, Nat.reduceSub, Array.replicate_succ, Array.replicate_zero, List.push_toArray, List.append_toArray, List.nil_append, List.cons_append]
  gi_wp2
  gi_loopw [4] (fun p wr => ∃ k : Nat, k ≤ m ∧ p = .int .i64 ((64 * k : Nat) : Int) ∧ J ((List.finRange m).take k) wr ∧ wr.cell? ⟨Bs, 0, none⟩ = some (.slice (some ad) n c) ∧ wr.cell? ⟨Bn, 0, none⟩ = some (.int .i64 64))
    (fun p _ => n - (intOf p).toNat)
  case atStart => exact ⟨0, by omega, rfl, by simpa using h0, hBs, hBn⟩
  case round =>
    obtain ⟨k, hk, rfl, hJ, hBs, hBn⟩ := hrel
    by_cases hlt : k < m
    · obtain ⟨s, hs⟩ : ∃ s, 64 * k = s := ⟨_, rfl⟩
      obtain ⟨t, ht⟩ : ∃ t, t = s + 64 := ⟨_, rfl⟩
      have hsn : s < n := by omega
      have htn : t ≤ n := by omega
      rw [hs]
      obtain ⟨r, hr⟩ : ∃ r, n - s = r := ⟨_, rfl⟩
      have hcut := cut_three ad n c s t ht htn hnc
      have hcutl := cut_low ad n c s r hr hsn hnc
      have hmin := min_one (r : Int) (by omega)
      have hsn' : (s : Int) < (n : Int) := by omega
      have HN := Lib.hid hn
      clear hn
      obtain ⟨fn, tmps, assign, body, hy, hR⟩ := hY _ ⟨k, hlt⟩ wr.drew (hdr _ _ hJ) (by simp; omega)
      dsimp only [encC] at hy
      rw [hs] at hy
      rw [← finTake m k hlt] at hR
      gi_wp2
      gi_region
      all_goals gi_wp2
      refine hR.mono ?_
      rintro e W3 (⟨rfl, hJ3, hk3⟩ | ⟨rfl, hJx3⟩)
      · have hB3 : W3.cell? ⟨Bs, 0, none⟩ = some (.slice (some ad) n c) := (hk3.cell (p := ⟨Bs, 0, none⟩) h1 h2).trans hBs
        have hN3 : W3.cell? ⟨Bn, 0, none⟩ = some (.int .i64 64) := (hk3.cell (p := ⟨Bn, 0, none⟩) h3 h4).trans hBn
        have hs1 : s + 64 = 64 * (k + 1) := by omega
        have HS1 := Lib.hid hs1
        clear hs1 hs ht
        gi_wp2
        go_roundw
        case rel => exact ⟨k + 1, by omega, by rw [← HS1.out]; go_num, hJ3, hB3, hN3⟩
        case measure => simp [intOf]; omega
      · gi_wp2
        refine bodyPost_ret (results_none rfl _ _ _) rfl ?_
        exact ⟨⟨_, rfl⟩, .inr ⟨_, ⟨k + 1, by omega, rfl⟩, hJx3⟩⟩
    · obtain rfl : k = m := by omega
      have hge : ¬ ((64 * k : Nat) : Int) < (n : Int) := by omega
      have hx : decide (((64 * k : Nat) : Int) < (n : Int)) = false := by simpa using hge
      obtain ⟨s, hs⟩ : ∃ s, 64 * k = s := ⟨_, rfl⟩
      obtain rfl : n = s := by omega
      rw [hs] at hx hge ⊢
      have HS := Lib.hid hs
      clear hs hn hx hge
      gi_wp2
      go_end0
      exact ⟨⟨_, rfl⟩, .inl ⟨_, finAll _, hJ⟩⟩

theorem chunk_stops (d m Bs Bn n1 hB n c : Nat) (ad : Addr) (hm : 2 ≤ d) (hn : n = 64 * m) (hnm : n ≤ 100000) (hnc : n ≤ c) (h1 : Bs < n1) (h2 : Bs ≠ hB) (h3 : Bn < n1) (h4 : Bn ≠ hB) (w : World) (h5 : Bs < w.heap.size) (h6 : Bn < w.heap.size)
    (hBs : w.cell? ⟨Bs, 0, none⟩ = some (.slice (some ad) n c)) (hBn : w.cell? ⟨Bn, 0, none⟩ = some (.int .i64 64)) :
    SeqStopsK Fence.wide d Try.prog 58 #[.pointer (some ⟨Bs, 0, none⟩), .pointer (some ⟨Bn, 0, none⟩)] (encC ad (m := m)) (KpX n1 hB) (fun xs => xs = List.finRange m) (fun pre => ∃ k, k ≤ m ∧ pre = (List.finRange m).take k) m w := fun l J Jx W hW hJ _ hY h0 =>
  chunk_loop d m l Bs Bn n1 hB n c ad hm hn hnm hnc h1 h2 h3 h4 J Jx hY W ((hW.cell (p := ⟨Bs, 0, none⟩) h5).trans hBs) ((hW.cell (p := ⟨Bn, 0, none⟩) h6).trans hBn) h0
    (fun pre W hj => hJ pre W _ none hj ⟨rfl, rfl, rfl, Nat.le_refl _, fun _ _ _ => rfl⟩ (fun r e => by cases e))

end Go.Proofs.Ythpcmceomamadaa
