/- The document's prime and roots. No condition but that 64 at most are asked. -/
import Derived.Test.YthpcmceomamadaaShaRo
import Derived.Test.YthpcmceomamadaaShaRR
set_option linter.unusedVariables false
set_option linter.unusedSimpArgs false
namespace Go.Proofs.Ythpcmceomamadaa
open Go.RowKit

set_option maxHeartbeats 1000000 in
set_option maxRecDepth 20000 in
theorem refPrime_any (n : Nat) (h1 : 2 ≤ n) (h2 : n ≤ 311) (w : World) : Calls Try.prog 54 #[.int .i64 (n : Int)] w (GotB w (prB n)) := by
  go_enter Try.func54, Try.ntmps54
  go_wp2
  go_loop [3] (fun i => ∃ d : Nat, 2 ≤ d ∧ d ≤ n ∧ i = .int .i64 (d : Int) ∧ Hid (∀ e, 2 ≤ e → e < d → n % e ≠ 0)) (fun i => n - (intOf i).toNat)
  case atStart => exact ⟨2, by omega, h1, rfl, fun e he hl => by omega⟩
  case round =>
    obtain ⟨d, hd1, hd2, rfl, HD⟩ := hrel
    by_cases hle : d < n
    · obtain ⟨r, hr⟩ : ∃ r, n % d = r := ⟨_, rfl⟩
      have hrem : (n : Int) % (d : Int) = (r : Int) := by omega
      have HR := Lib.hid hr
      clear hr
      by_cases hz : r = 0
      · subst hz
        go_wp2
        go_ret
        exact ⟨by rw [pr_no hd1 hle HR.out]; rfl, rfl⟩
      · have hz2 : ((r : Int) == 0) = false := by simp; omega
        have HZ := Lib.hid hz
        clear hz
        go_wp2
        refine ⟨⟨d + 1, by omega, by omega, by go_num, fun e he hl => ?_⟩, by simp [intOf]; omega⟩
        by_cases h : e = d
        · subst h
          rw [HR.out]; exact HZ.out
        · exact HD.out e he (by omega)
    · obtain rfl : d = n := by omega
      have hg : decide ((1 : Int) < (d : Int)) = true := by simp; omega
      have hnn : d < d * d := by
        have : 2 * d ≤ d * d := Nat.mul_le_mul_right d h1
        omega
      have HNN := Lib.hid hnn
      clear hnn
      go_wp2
      go_ret
      exact ⟨by rw [pr_yes h1 h2 HNN.out HD.out]; rfl, rfl⟩

/-- Words that a call made itself. -/
def OwnW (w : World) (base : Nat) (v : Value) (k : Nat) (f : Nat → BitVec 32) : Prop := w.ownsRow base 22 1 v k (((List.range k).map f).map wv)
theorem OwnW.form {w : World} {base : Nat} {v : Value} {k : Nat} {f : Nat → BitVec 32} (h : OwnW w base v k f) : ∃ A c, v = .slice A k c ∧ k ≤ c := by
  rcases h.2 with ⟨rfl, h0⟩ | ⟨g, cap, cur, hv, _, _, hc, _⟩
  · exact ⟨none, 0, by rw [h0], by omega⟩
  · exact ⟨_, cap, hv, hc⟩
theorem OwnW.words {w : World} {base N : Nat} {v : Value} {f : Nat → BitVec 32} (h : OwnW w base v N f) (hN : 0 < N) :
    ∃ g c, v = .slice (some ⟨g, 0, none⟩) N c ∧ base ≤ g ∧ N ≤ c ∧ RdW w g N f := by
  rcases h.2 with ⟨_, h0⟩ | ⟨g, cap, cur, hv, hb, hg, hc, _⟩
  · omega
  · refine ⟨g, cap, hv, hb, hc, (Array.getElem?_eq_some_iff.1 hg).1, fun j hj => ?_⟩
    have := World.ownsRow.cells h (g := g) (by rw [hv]; rfl) j (wv (f j)) (by simp [hj])
    rw [add_zero_at] at this
    exact this
theorem OwnW.nil (w : World) (base : Nat) (f : Nat → BitVec 32) : OwnW w base (.slice none 0 0) 0 f := World.ownsRow_nil _ _ _ _
theorem OwnW.below {w w' : World} {base k : Nat} {v : Value} {f : Nat → BitVec 32} (h : OwnW w base v k f) (hb : Below w.heap.size w w') : OwnW w' base v k f :=
  World.ownsRow.kept h (grown_of_below hb none) (by cases hv : v.ownBlock <;> simp)
theorem OwnW.lt {w : World} {base k : Nat} {v : Value} {f : Nat → BitVec 32} (h : OwnW w base v k f) : ∀ j, v.ownBlock = some j → base ≤ j ∧ j < w.heap.size := World.ownsRow.lt h
theorem OwnW.next {w : World} {base k : Nat} {v : Value} {f : Nat → BitVec 32} {x : BitVec 32} (h : w.ownsRow base 22 1 v (k + 1) (((List.range k).map f).map wv ++ [wv x])) (hx : f k = x) : OwnW w base v (k + 1) f := by
  unfold OwnW
  rw [List.range_succ, List.map_append, List.map_append]
  simp only [List.map_cons, List.map_nil, hx]
  exact h

theorem info_u32 : (Try.prog.info? 22).map (fun i => (i.zero, i.size, i.bytes)) = some (some (.int .u32 0), 1, 4) := by kernel_rfl

/-- A literal of one word. -/
theorem lit_word (w0 : World) (x : BitVec 32) : ∀ (j : Nat) (u : Value), [wv x][j]? = some u → (w0.alloc (.cells #[.int .u32 (x.toNat : Int)] 22)).cell? ((⟨w0.heap.size, 0, none⟩ : Addr).add j) = some u := by
  intro j u hu
  match j, hu with
  | 0, hu =>
    cases hu
    rw [add_zero_at, cell_of_row _ _ _ _ _ _ (heap_alloc_new w0 _)]
    rfl
  | j + 1, hu => simp at hu
theorem one_word (x : BitVec 32) : ∀ u ∈ [wv x], u.oneCell' = true := by
  intro u hu
  cases hu with
  | head => rfl
  | tail _ h => cases h

/-- N words, newly made. -/
def GotWs (w : World) (N : Nat) (f : Nat → BitVec 32) (e : Ending) (w' : World) : Prop := ∃ g c, e = .returned (.slice (some ⟨g, 0, none⟩) N c) ∧ w.heap.size ≤ g ∧ N ≤ c ∧ RdW w' g N f ∧ Below w.heap.size w w'

set_option maxHeartbeats 1000000 in
set_option maxRecDepth 100000 in
theorem refRoots_any (p m : Nat) (hp : p = 2 ∨ p = 3) (hm1 : 1 ≤ m) (hm : m ≤ 64) (w : World) :
    Calls Try.prog 34 #[.int .i64 (p : Int), .int .i64 (m : Int)] w (GotWs w m (fun i => rootW p (prime i))) := by
  obtain ⟨i0, hi0, hz0, hz1, hz2⟩ := info_parts info_u32
  have HP := Lib.hid hp
  clear hp
  go_enter Try.func34, Try.ntmps34
  go_wp2
  go_loopw [5, 6] (fun v nv' wr => ∃ k n : Nat, k ≤ m ∧ 2 ≤ n ∧ n ≤ 312 ∧ Hid (cnt n = k) ∧ nv' = .int .i64 (n : Int) ∧ Hid (OwnW wr w.heap.size v k (fun i => rootW p (prime i))) ∧ Hid (Below w.heap.size w wr)) (fun _ nv' _ => 312 - (intOf nv').toNat)
  case atStart => exact ⟨0, 2, by omega, by omega, by omega, cnt_two, rfl, OwnW.nil _ _ _, Below.refl _ _⟩
  case round =>
    obtain ⟨k, n, hk, hn1, hn2, HC, rfl, HO, HB⟩ := hrel
    obtain ⟨A, c, rfl, hkc⟩ := HO.out.form
    by_cases hlt : k < m
    · have hn3 : n ≤ 311 := by
        rcases Nat.lt_or_ge n 312 with h | h
        · omega
        · obtain rfl : n = 312 := by omega
          have := HC.out
          rw [cnt_all] at this
          omega
      have hsz : w.heap.size ≤ wr.heap.size := HB.out.size
      cases hb : prB n with
      | false =>
        have hc' := cnt_no n (by omega) hb
        have HC2 : Hid (cnt (n + 1) = k) := by show cnt (n + 1) = k; rw [hc', HC.out]
        have P1 := Lib.hid (refPrime_any n hn1 hn3 wr)
        rw [hb] at P1
        clear hb hc'
        go_wp2_with fail
        (with_reducible refine P1.out.mono ?_)
        rintro e w1 ⟨rfl, rfl⟩
        go_wp2_with fail
        exact ⟨⟨k, n + 1, by omega, by omega, by omega, HC2, by go_num, HO, HB⟩, by simp [intOf]; omega⟩
      | true =>
        obtain ⟨hc1, hc2⟩ := cnt_yes n (by omega) hb
        rw [HC.out] at hc1 hc2
        have HC1 := Lib.hid hc1
        have HC2 := Lib.hid hc2
        have P1 := Lib.hid (refPrime_any n hn1 hn3 wr)
        rw [hb] at P1
        have P2 := Lib.hid (refRoot_yes p n HP.out (by omega) (by omega) wr)
        obtain ⟨x, hx⟩ : ∃ x, rootW p n = x := ⟨_, rfl⟩
        rw [hx] at P2
        have HX := Lib.hid hx
        clear hb hc1 hc2 hx
        go_wp2_with fail
        (with_reducible refine P1.out.mono ?_)
        rintro e w1 ⟨rfl, rfl⟩
        go_wp2_with fail
        (with_reducible refine P2.out.mono ?_)
        rintro e w1 ⟨rfl, hb1⟩
        have HB1 := Lib.hid hb1
        have hs1 : wr.heap.size ≤ w1.heap.size := hb1.size
        have HO2 := Lib.hid ((HO.out.below hb1).below (bl_alloc (Below.refl _ _) (.cells #[.int .u32 (x.toNat : Int)] 22)))
        have HD := Lib.hid (bl_alloc (bl_trans HB.out hb1) (.cells #[.int .u32 (x.toNat : Int)] 22))
        clear hb1
        go_wp2_with (refine wpList_append_own _ rfl _ _ 55 rfl w.heap.size 22 i0 (.int .u32 0) 1 4 Try.underlying55 hi0 hz0 hz1 hz2 rfl (by omega) _ k _ rfl HO2.out ⟨w1.heap.size, 0, none⟩ 1 1 [wv x] rfl rfl (lit_word w1 x) (one_word x) (by simp only [maxLen]; omega) (by omega) (by simp; omega) ?_)
        intro v2 w2 ho2 hg2 _
        have HO3 := Lib.hid ho2
        have HG3 := Lib.hid hg2
        clear ho2 hg2
        go_wp2_with fail
        refine ⟨⟨k + 1, n + 1, by omega, by omega, by omega, HC1, by go_num, ?_, Lib.hid (bl_grown HD.out HG3.out (fun j hj => (HO2.out.lt j hj).1))⟩, by simp [intOf]; omega⟩
        have ho := HO3.out
        rw [← List.map_map] at ho
        exact OwnW.next ho (by rw [HC2.out, HX.out])
    · obtain rfl : k = m := by omega
      obtain ⟨g, c', hv, hg, hgc, hr⟩ := HO.out.words hm1
      cases hv
      have HR := Lib.hid hr
      clear hr
      go_wp2
      go_ret
      exact ⟨g, c, rfl, hg, hgc, HR.out, HB.out⟩

end Go.Proofs.Ythpcmceomamadaa
