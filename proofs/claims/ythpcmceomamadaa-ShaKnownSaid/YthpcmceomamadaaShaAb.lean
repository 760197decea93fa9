/- The document's above. No condition but that the numbers' digits can be read, and are few. -/
import Derived.Test.YthpcmceomamadaaShaDh
set_option linter.unusedVariables false
set_option linter.unusedSimpArgs false
namespace Go.Proofs.Ythpcmceomamadaa
open Go.RowKit

theorem above_yes {fa fb : Nat → Nat} {m n N i : Nat} (hm : m ≤ N) (hn : n ≤ N) (da : Digs fa m) (db : Digs fb n) (hi : i < N) (he : ∀ j, i < j → j < N → wide fa m j = wide fb n j) (hl : wide fb n i < wide fa m i) :
    decide (val fb n < val fa m) = true := by
  have h := val_order N hi (wide_digs db N) (wide_digs da N) (fun j h1 h2 => (he j h1 h2).symm) hl
  rw [wide_val _ hm, wide_val _ hn] at h
  simpa using h
theorem above_no {fa fb : Nat → Nat} {m n N i : Nat} (hm : m ≤ N) (hn : n ≤ N) (da : Digs fa m) (db : Digs fb n) (hi : i < N) (he : ∀ j, i < j → j < N → wide fa m j = wide fb n j) (hl : wide fa m i < wide fb n i) :
    decide (val fb n < val fa m) = false := by
  have h := val_order N hi (wide_digs da N) (wide_digs db N) he hl
  rw [wide_val _ hm, wide_val _ hn] at h
  simp only [decide_eq_false_iff_not]
  omega
theorem above_same {fa fb : Nat → Nat} {m n N : Nat} (hm : m ≤ N) (hn : n ≤ N) (he : ∀ j, j < N → wide fa m j = wide fb n j) :
    decide (val fb n < val fa m) = false := by
  have h := val_congr N he
  rw [wide_val _ hm, wide_val _ hn] at h
  simp only [decide_eq_false_iff_not]
  omega

set_option maxHeartbeats 4000000 in
set_option maxRecDepth 100000 in
theorem above_any (ga ca gb cb m n : Nat) (fa fb : Nat → Nat) (w : World) (hm : m ≤ n + 2) (hn : n ≤ m) (hm9 : m ≤ 9) (ha : RdN w ga m fa) (hb : RdN w gb n fb) (da : Digs fa m) (db : Digs fb n) (r : Bool) (hr : decide (val fb n < val fa m) = r) :
    Calls Try.prog 30 #[.slice (some ⟨ga, 0, none⟩) m ca, .slice (some ⟨gb, 0, none⟩) n cb] w (GotB w r) := by
  have hmx : (if (n : Int) ≤ (m : Int) then (m : Int) else (n : Int)) = (m : Int) := if_pos (by omega)
  have hmx2 : max (m : Int) (n : Int) = (m : Int) := by omega
  have HA := Lib.hid ha
  have HB := Lib.hid hb
  have DA := Lib.hid da
  have DB := Lib.hid db
  have HR := Lib.hid hr
  clear ha hb da db hr
  go_enter Try.func30, Try.ntmps30
  go_wp2
  go_loop [6] (fun i => ∃ k : Nat, k ≤ m ∧ i = .int .i64 ((k : Int) - 1) ∧ Hid (∀ j, k ≤ j → j < m → wide fa m j = wide fb n j)) (fun i => (intOf i + 1).toNat)
  case atStart => exact ⟨m, by omega, rfl, fun j h1 h2 => by omega⟩
  case round =>
    obtain ⟨k, hk, rfl, HE⟩ := hrel
    rcases k with _ | k
    · have e0 : ((0 : Nat) : Int) - 1 = -1 := by omega
      rw [e0]
      clear e0
      go_wp2
      go_ret
      refine ⟨?_, rfl⟩
      rw [← HR.out, above_same (Nat.le_refl _) hn (fun j hj => HE.out j (by omega) hj)]
      rfl
    · have ek : ((k + 1 : Nat) : Int) - 1 = (k : Int) := by omega
      rw [ek]
      clear ek
      have hkm : k < m := by omega
      obtain ⟨x, hx⟩ : ∃ x, fa k = x := ⟨_, rfl⟩
      have ca1 := HA.out.2 k hkm
      rw [hx] at ca1
      have wx : wide fa m k = x := by unfold wide; rw [if_pos hkm, hx]
      obtain ⟨y, hy⟩ : ∃ y, wide fb n k = y := ⟨_, rfl⟩
      have HX := Lib.hid wx
      have HY := Lib.hid hy
      by_cases hkn : k < n
      · have cb1 := HB.out.2 k hkn
        have ey : fb k = y := by rw [← hy]; unfold wide; rw [if_pos hkn]
        rw [ey] at cb1
        clear wx hy hx ey
        rcases Nat.lt_trichotomy x y with hl | hl | hl
        · have hb1 : ((x : Int) != (y : Int)) = true := by simp; omega
          have hb2 : decide (y < x) = false := by simp; omega
          have HLt := Lib.hid hl
          clear hl
          go_wp2
          go_ret
          refine ⟨?_, rfl⟩
          rw [← HR.out, above_no (Nat.le_refl _) hn DA.out DB.out hkm (fun j h1 h2 => HE.out j h1 h2) (by rw [HX.out, HY.out]; exact HLt.out)]
          rfl
        · subst hl
          go_wp2
          refine ⟨⟨k, by omega, by go_num, fun j h1 h2 => ?_⟩, by simp [intOf]⟩
          by_cases e : j = k
          · subst e
            rw [HX.out, HY.out]
          · exact HE.out j (by omega) h2
        · have hb1 : ((x : Int) != (y : Int)) = true := by simp; omega
          have hb2 : decide (y < x) = true := by simp; omega
          have HLt := Lib.hid hl
          clear hl
          go_wp2
          go_ret
          refine ⟨?_, rfl⟩
          rw [← HR.out, above_yes (Nat.le_refl _) hn DA.out DB.out hkm (fun j h1 h2 => HE.out j h1 h2) (by rw [HX.out, HY.out]; exact HLt.out)]
          rfl
      · have ey : y = 0 := by rw [← hy]; unfold wide; rw [if_neg hkn]
        subst ey
        clear wx hy hx
        rcases Nat.eq_zero_or_pos x with hl | hl
        · subst hl
          go_wp2
          refine ⟨⟨k, by omega, by go_num, fun j h1 h2 => ?_⟩, by simp [intOf]⟩
          by_cases e : j = k
          · subst e
            rw [HX.out, HY.out]
          · exact HE.out j (by omega) h2
        · have hb1 : ((x : Int) != 0) = true := by simp; omega
          have hb2 : decide (0 < x) = true := by simp; omega
          have HLt := Lib.hid hl
          clear hl
          go_wp2
          go_ret
          refine ⟨?_, rfl⟩
          rw [← HR.out, above_yes (Nat.le_refl _) hn DA.out DB.out hkm (fun j h1 h2 => HE.out j h1 h2) (by rw [HX.out, HY.out]; exact HLt.out)]
          rfl

end Go.Proofs.Ythpcmceomamadaa
