/- Same, of sections that are the same; EqBytes as a call that turns nothing. -/
import Derived.Test.YtlblcligjelbgaaPackH
set_option linter.unusedVariables false
namespace Go.Proofs.Ytlblcligjelbgaa
open Go.RowKit

/-- EqBytes turns nothing but the count of draws. -/
def Quiet (w : World) (b : Bool) (e : Ending) (w' : World) : Prop := e = .returned (.bool b) ∧ ∃ m, w' = w.drewN m

set_option maxHeartbeats 400000 in
set_option maxRecDepth 20000 in
theorem eq_quiet (A A' : Option Addr) (n c n' c' : Nat) (l : List UInt8) (w : World) (hl : l.length = n) (hl' : l.length = n') (hr : Rd w A l) (hr' : Rd w A' l) (hn : n ≤ maxLen) :
    Calls Try.prog 16 #[.slice A n c, .slice A' n' c'] w (Quiet w true) := by
  unfold maxLen at hn
  obtain rfl : n = n' := by omega
  have hb : ((n : Int) != (n : Int)) = false := by simp
  have HL := Lib.hid hl
  clear hl hl'
  go_enter Try.func16, Try.ntmps16
  go_wp2
  go_loopw [5] (fun i wr => ∃ k m : Nat, k ≤ n ∧ i = .int .i64 k ∧ Hid (wr = w.drewN m)) (fun i _ => n - (intOf i).toNat)
  case atStart => exact ⟨0, 0, Nat.zero_le _, rfl, rfl⟩
  case round =>
    obtain ⟨k, m, hk, rfl, HW⟩ := hrel
    by_cases hlt : k < n
    · have h1 : k < l.length := by have := HL.out; omega
      have hrr : Rd wr A l := by rw [HW.out]; exact hr
      have hrr' : Rd wr A' l := by rw [HW.out]; exact hr'
      obtain ⟨ad, rfl, hc⟩ := hrr.cell h1
      obtain ⟨ad', rfl, hc'⟩ := hrr'.cell h1
      clear hr hr' hrr hrr'
      go_wp2
      have hb : ((l[k].toNat : Int) != (l[k].toNat : Int)) = false := by simp
      go_quiet (fail)
      go_wp2
      exact ⟨⟨k + 1, m + nq, by omega, by go_num, by rw [HW.out]; exact World.drewN_drewN ..⟩, by simp [intOf]; omega⟩
    · go_wp2
      go_ret
      exact ⟨rfl, m, HW.out⟩

set_option maxHeartbeats 1000000 in
set_option maxRecDepth 20000 in
theorem same_yes (A A' : Option Addr) (n c n' c' : Nat) (ss : List Sec) (w : World) (hl : ss.length = n) (hl' : ss.length = n') (hr : RdS w A ss) (hr' : RdS w A' ss) (hn : n ≤ maxLen) :
    Calls Try.prog 18 #[.slice A n c, .slice A' n' c'] w (GotBool w true) := by
  unfold maxLen at hn
  obtain rfl : n = n' := by omega
  have hb : ((n : Int) != (n : Int)) = false := by simp
  have HL := Lib.hid hl
  clear hl hl'
  go_enter Try.func18, Try.ntmps18
  go_wp2_with fail
  go_loopw [5] (fun i wr => ∃ k : Nat, k ≤ n ∧ i = .int .i64 k ∧ Below w.heap.size w wr) (fun i _ => n - (intOf i).toNat)
  case atStart => exact ⟨0, Nat.zero_le _, rfl, Below.refl _ _⟩
  case round =>
    obtain ⟨k, hk, rfl, hbl⟩ := hrel
    by_cases hlt : k < n
    · have h1 : k < ss.length := by have := HL.out; omega
      obtain ⟨ad, Ak, m, cm, rfl, g1, g2, HK, hm1, hm2, hrd⟩ := (hr.below hbl).at h1
      obtain ⟨ad', Ak', m', cm', rfl, g1', g2', HK', hm1', hm2', hrd'⟩ := (hr'.below hbl).at h1
      unfold maxLen at hm2 hm2'
      have hbt : (ss[k].1 != ss[k].1) = false := by simp
      have hbt' : (ss[k].1 == ss[k].1) = true := by simp
      clear hr hr'
      go_wp2_with fail
      go_quiet ((go_at_call 16; exact Calls.quiet_of (eq_quiet Ak Ak' m cm m' cm' ss[k].2 _ HK.out HK'.out hrd hrd' (by simp only [maxLen]; omega))))
      go_wp2_with fail
      exact ⟨⟨k + 1, by omega, by go_num, bl_drewN hbl _⟩, by simp [intOf]; omega⟩
    · go_wp2_with fail
      go_ret
      exact ⟨rfl, hbl⟩

/-- 'Bring', the place under a name. -/
theorem bring_to (i : Int) (n : Nat) (z : Int) (hz : (n : Int) = z) (h1 : -9223372036854775808 ≤ i) (h2 : i ≤ 9223372036854775807) (hn : 0 < n) (hn2 : n ≤ 9223372036854775807) :
    ∃ j : Nat, j < n ∧ Hid (∀ w : World, Calls Try.prog 26 #[.int .i64 i, .int .i64 z] w fun e w' => e = .returned (.int .i64 (j : Int)) ∧ w = w') := by
  subst hz
  obtain ⟨j, h, _, hc⟩ := bring_nat i n h1 h2 hn hn2
  exact ⟨j, h, hc⟩
theorem made_small (ll : List (List UInt8)) : ∀ s ∈ madeE ll, s.2.length ≤ 150000000000000 := fun s hs => by have := made_data _ _ s hs; omega

end Go.Proofs.Ytlblcligjelbgaa
