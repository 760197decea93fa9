/- The document's times. No condition but that the numbers' digits can be read, and are few. -/
import Derived.Test.YthpcmceomamadaaShaDh
set_option linter.unusedVariables false
set_option linter.unusedSimpArgs false
namespace Go.Proofs.Ythpcmceomamadaa
open Go.RowKit

set_option maxHeartbeats 4000000 in
set_option maxRecDepth 100000 in
theorem times_any (ga ca gb cb m n : Nat) (fa fb : Nat → Nat) (w : World) (hm : m ≤ 6) (hn : n ≤ 3) (ha : RdN w ga m fa) (hb : RdN w gb n fb) (da : Digs fa m) (db : Digs fb n) :
    Calls Try.prog 29 #[.slice (some ⟨ga, 0, none⟩) m ca, .slice (some ⟨gb, 0, none⟩) n cb] w (GotN w (m + n) (val fa m * val fb n)) := by
  obtain ⟨N, hN⟩ : ∃ N, N = m + n := ⟨_, rfl⟩
  have hmk := make_ints N ((m : Int) + (n : Int)) (by omega) (by omega)
  have h9 : N ≤ 9 := by omega
  have HN := Lib.hid hN
  have HA := Lib.hid ha
  have HB := Lib.hid hb
  have DA := Lib.hid da
  have DB := Lib.hid db
  clear hN ha hb da db
  go_enter Try.func29, Try.ntmps29
  go_wp2
  have k0 : Hn (w.alloc (.cells (rowN N (fun _ => 0)) 3)) w.heap.size N (fun _ => 0) := heap_alloc_new w _
  have kB : Below w.heap.size w (w.alloc (.cells (rowN N (fun _ => 0)) 3)) := bl_alloc (Below.refl _ _) _
  have K0 := Lib.hid k0
  have KB := Lib.hid kB
  clear k0 kB hmk
  go_loopw [6] (fun i wr => ∃ (k : Nat) (f : Nat → Nat), k ≤ m ∧ i = .int .i64 k ∧ Hid (TOut fa fb m n k f) ∧ Hn wr w.heap.size N f ∧ Below w.heap.size w wr) (fun i _ => m - (intOf i).toNat)
  case atStart => exact ⟨0, _, by omega, rfl, TOut.start fa fb m n, K0.out, KB.out⟩
  case round =>
    clear K0 KB
    obtain ⟨i, f, hi, rfl, HO, h0, hB⟩ := hrel
    by_cases hlt : i < m
    · have H0 := Lib.hid h0
      have HBl := Lib.hid hB
      clear h0 hB
      go_wp2
      go_loopw [7, 8] (fun cv kv wr => ∃ (k c : Nat) (f : Nat → Nat), k ≤ n ∧ kv = .int .i64 k ∧ cv = .int .i64 c ∧ c < 65536 ∧ Hid (TIn fa fb m n i k f c) ∧ Hn wr w.heap.size N f ∧ Below w.heap.size w wr) (fun _ kv _ => n - (intOf kv).toNat)
      case atStart => exact ⟨0, 0, f, by omega, rfl, rfl, by omega, HO.out.go, H0.out, HBl.out⟩
      case round =>
        clear H0 HBl HO
        obtain ⟨k, c, f, hk, rfl, rfl, hc, HI, h0, hB⟩ := hrel
        by_cases hlk : k < n
        · obtain ⟨t, ht⟩ : ∃ t, i + k = t := ⟨_, rfl⟩
          have htN : t < N := by have := HN.out; omega
          obtain ⟨x, hx⟩ : ∃ x, fa i = x := ⟨_, rfl⟩
          obtain ⟨y, hy⟩ : ∃ y, fb k = y := ⟨_, rfl⟩
          obtain ⟨o, ho⟩ : ∃ o, f t = o := ⟨_, rfl⟩
          obtain ⟨q, hq⟩ : ∃ q, x * y = q := ⟨_, rfl⟩
          obtain ⟨u, hu⟩ : ∃ u, o + q = u := ⟨_, rfl⟩
          obtain ⟨s, hs⟩ : ∃ s, u + c = s := ⟨_, rfl⟩
          obtain ⟨lo, hlo⟩ : ∃ d, s % 65536 = d := ⟨_, rfl⟩
          obtain ⟨hi', hhi⟩ : ∃ d, s / 65536 = d := ⟨_, rfl⟩
          have hst := HI.out.step hlt hlk DA.out DB.out (s := s) (by rw [ht, hx, hy, ho, hq, hu, hs])
          rw [ht, hlo, hhi] at hst
          obtain ⟨hs32, hI2⟩ := hst
          have ca1 := (HA.out.below hB).2 i hlt
          have cb1 := (HB.out.below hB).2 k hlk
          have co1 := h0.cell htN
          rw [hx] at ca1
          rw [hy] at cb1
          rw [ho] at co1
          have et : (i : Int) + (k : Int) = (t : Int) := by omega
          have eq : (x : Int) * (y : Int) = (q : Int) := by rw [← hq]; simp
          have eu : (o : Int) + (q : Int) = (u : Int) := by omega
          have es : (u : Int) + (c : Int) = (s : Int) := by omega
          have qlt : q < 4294967296 := by omega
          have ult : u < 4294967296 := by omega
          have alo : bits .and .i64 (s : Int) 65535 = (lo : Int) := by rw [and16, hlo]
          have ehi : (s : Int) / 65536 = (hi' : Int) := by omega
          have hc2 := hI2.carry
          have wt : IntKind.i64.wrap (t : Int) = (t : Int) := IntWalk.i64_in _ (by omega)
          have wq : IntKind.i64.wrap (q : Int) = (q : Int) := IntWalk.i64_in _ (by omega)
          have wu : IntKind.i64.wrap (u : Int) = (u : Int) := IntWalk.i64_in _ (by omega)
          have ws : IntKind.i64.wrap (s : Int) = (s : Int) := IntWalk.i64_in _ (by omega)
          have HI2 := Lib.hid hI2
          have M0 := Lib.hid h0
          have MB := Lib.hid hB
          clear h0 hB hI2 ht hx hy ho hq hu hs hlo hhi HI
          go_wp2
          go_quiet (fail)
          have N0 := Lib.hid (M0.out.drewN nq)
          have NB := Lib.hid (bl_drewN MB.out nq)
          clear ca1 cb1 co1 M0 MB
          generalize wr.drewN nq = wq' at *
          have fo1 := N0.out.free t
          have co1 := N0.out.cell htN
          go_wp2
          clear et eq eu es alo ehi wt wq wu ws
          exact ⟨⟨k + 1, hi', _, by omega, by go_num, rfl, hc2, HI2, N0.out.set t lo, NB.out.setCell (p := ⟨w.heap.size, t, none⟩) (by simp) _⟩, by simp [intOf]; omega⟩
        · obtain rfl : k = n := by omega
          obtain ⟨hz, hI2⟩ := HI.out.done hlt
          obtain ⟨t, ht⟩ : ∃ t, i + k = t := ⟨_, rfl⟩
          rw [ht] at hz hI2
          have htN : t < N := by have := HN.out; omega
          have co1 := h0.cell htN
          have fo1 := h0.free t
          rw [hz] at co1
          have et : (i : Int) + (k : Int) = (t : Int) := by omega
          have wt : IntKind.i64.wrap (t : Int) = (t : Int) := IntWalk.i64_in _ (by omega)
          have HI2 := Lib.hid hI2
          have M0 := Lib.hid h0
          have MB := Lib.hid hB
          clear h0 hB hI2 ht hz HI
          go_wp2
          clear et wt
          exact ⟨⟨i + 1, _, by omega, by go_num, HI2, M0.out.set t c, MB.out.setCell (p := ⟨w.heap.size, t, none⟩) (by simp) _⟩, by simp [intOf]; omega⟩
    · obtain rfl : i = m := by omega
      have H0 := Lib.hid h0
      have HBl := Lib.hid hB
      clear h0 hB
      go_wp2
      go_ret
      have e := HN.out
      subst e
      exact ⟨w.heap.size, _, f, rfl, Nat.le_refl _, H0.out.rd, HO.out.digs, HO.out.sum, HBl.out⟩

end Go.Proofs.Ythpcmceomamadaa
