/- What the document's own TakeNum, Text, TakeText and Join do: contracts over the translated program. -/
import Derived.Test.YtlblcligjelbgaaWalkG
set_option linter.unusedVariables false
namespace Go.Proofs.Ytlblcligjelbgaa
open Go.RowKit

theorem Own.rd {w : World} {base : Nat} {A : Option Addr} {n c : Nat} {l : List UInt8} (h : Own w base (.slice A n c) l) : Rd w A l := by
  obtain ⟨A', n', c', e, _, _, _, hr⟩ := h.form
  cases e
  exact hr

/-- What was made later lies elsewhere, seen from the later one. -/
theorem own_apart' {w w' : World} {b b' : Nat} {v u : Value} {x y : List UInt8} (h : Own w b v x) (h' : Own w' b' u y) (hb : w.heap.size ≤ b') : u.ownBlock = none ∨ u.ownBlock ≠ v.ownBlock := by
  rcases hv : u.ownBlock with _ | k
  · exact .inl rfl
  · right
    intro he
    have h1 := h'.lt k hv
    have h2 := h.lt k he.symm
    omega

/-- What headE tells where the last byte of a number stands at place k. -/
theorem headE_end {l : List UInt8} {k : Nat} (he : extE 0 l = (k + 1, 0)) : headE l = if (0 < k ∧ l.getD k 0 = 0) ∨ 9007199254740991 < val (l.take (k + 1)) then (0, 0, 4) else (val (l.take (k + 1)), k + 1, 0) := by
  unfold headE
  rw [he]
  dsimp only
  rw [if_neg (by simp), Nat.add_sub_cancel]
  by_cases h1 : 1 < k + 1 ∧ l.getD k 0 = 0
  · rw [if_pos h1, if_pos (.inl ⟨by omega, h1.2⟩)]
  · rw [if_neg h1]
    by_cases h2 : 9007199254740991 < val (l.take (k + 1))
    · rw [if_pos h2, if_pos (.inr h2)]
    · rw [if_neg h2, if_neg]
      rintro (h3 | h3)
      · exact h1 ⟨by omega, h3.2⟩
      · exact h2 h3

set_option maxHeartbeats 1000000 in
set_option maxRecDepth 20000 in
theorem reftake_any (A : Option Addr) (n c : Nat) (l : List UInt8) (w : World) (hl : l.length = n) (hr : Rd w A l) (hnc : n ≤ c) (hc : c ≤ maxLen) (hn : n ≤ 200000000000000) :
    Calls Try.prog 50 #[.slice A n c] w (GotNumE w (takeN l).1 (takeN l).2.1 (takeN l).2.2) := by
  unfold maxLen at hc
  have HT : Hid (takeN l = _) := Lib.hid (takeN.eq_1 l)
  have HL := Lib.hid hl
  clear hl
  go_enter Try.func50, Try.ntmps50
  go_wp2_with fail
  go_loop [5, 6, 7] (fun s t i => ∃ k V P : Nat, k ≤ 8 ∧ V ≤ 72057594037927936 ∧ P ≤ 72057594037927936 ∧ i = .int .i64 (k : Int) ∧ s = .int .i64 (V : Int) ∧ t = .int .i64 (P : Int) ∧ Hid (k ≤ n ∧ P = 128 ^ k ∧ V = val (l.take k) ∧ (k < 8 → extE 0 l = extE k (l.drop k)) ∧ (k = 8 → extE 0 l = (0, 4)))) (fun _ _ i => 8 - (intOf i).toNat)
  case atStart => exact ⟨0, 0, 1, by omega, by omega, by omega, rfl, rfl, rfl, by omega, rfl, rfl, fun _ => rfl, fun h => by omega⟩
  case round =>
    obtain ⟨k, V, P, hk8, hV, hP, rfl, rfl, rfl, HK⟩ := hrel
    by_cases hlt : k < 8
    · by_cases hkn : k < n
      · have hk' : k < l.length := by have := HL.out; omega
        obtain ⟨ad, rfl, hcell⟩ := hr.cell hk'
        obtain ⟨Q, hQ⟩ : ∃ Q : Nat, Q = 128 ^ k * (l[k].toNat % 128) := ⟨_, rfl⟩
        have hPk : P ≤ 562949953421312 := by
          rw [HK.out.2.1]
          have := Nat.pow_le_pow_right (n := 128) (by omega) (show k ≤ 7 by omega)
          omega
        have hQ2 : Q ≤ 127 * 562949953421312 := by
          rw [hQ, ← HK.out.2.1, Nat.mul_comm]
          exact Nat.mul_le_mul (by omega) hPk
        have hVP : V < P := by
          have := val_lt (l.take k)
          rw [List.length_take, Nat.min_eq_left (by omega)] at this
          rw [HK.out.2.1, HK.out.2.2.1]
          exact this
        have hmul : wrap64 ((l[k].toNat : Int) % 128 * (P : Int)) = (Q : Int) := by
          have e : ((l[k].toNat : Int) % 128 * (P : Int)) = (Q : Int) := by
            rw [hQ, ← HK.out.2.1, Nat.mul_comm]
            simp
          rw [e, IntWalk.wrap64_in _ ⟨by omega, by omega⟩]
        have HV : Hid (val (l.take (k + 1)) = V + Q) := Lib.hid (by rw [val_more hk', hQ, HK.out.2.2.1])
        clear hQ
        by_cases h1 : l[k].toNat < 128
        · have hb : decide ((128 : Int) ≤ (l[k].toNat : Int)) = false := by simp; omega
          have hb2 : decide (128 ≤ l[k].toNat) = false := by simp; omega
          have hee : extE 0 l = (k + 1, 0) := by rw [HK.out.2.2.2.1 hlt, ext_cons hk', extE, if_pos h1]
          have HH : Hid (headE l = _) := Lib.hid (headE_end hee)
          rw [HV.out, getD_of hk'] at HH
          have hVQ : V + Q ≤ 72057594037927936 := by omega
          clear hee
          by_cases hz : l[k].toNat = 0
          · have z1 : ((l[k].toNat : Int) == 0) = true := by simp; omega
            by_cases hk0 : 0 < k
            · have k1 : decide ((0 : Int) < (k : Int)) = true := by simp; omega
              have HZ := Lib.hid hz
              clear hz
              go_wp2_with fail
              go_ret3
              have hh : headE l = (0, 0, 4) := by rw [HH.out, if_pos (.inl ⟨hk0, UInt8.toNat_inj.1 (by rw [HZ.out]; rfl)⟩)]
              rw [HT.out, hh]
              exact ⟨_, rfl, Own.nil _ _, Below.refl _ _⟩
            · have k1 : decide ((0 : Int) < (k : Int)) = false := by simp; omega
              have hs : k + 1 ≤ n := by omega
              obtain ⟨A', hcut, hr'⟩ := cut_from (some ad) n c (k + 1) l w HL.out hr hs hnc
              have hcut2 : ∀ W : World, (Instr.slice 24 (.slice (some ad) n c) (some (.int .i64 ((k : Int) + 1))) none none).run Try.prog W = .ok (.slice A' (n - (k + 1)) (c - (k + 1))) W := by simpa using hcut
              have cp := copy_any A' (n - (k + 1)) (c - (k + 1)) (l.drop (k + 1)) w (by rw [List.length_drop, HL.out]) hr' (by omega)
              have CP := Lib.hid cp
              clear cp hcut hr' hr
              have hm : ¬ 9007199254740991 < V + Q := by
                have e1 : k = 0 := by omega
                have e2 := HV.out
                subst e1
                have hV0 : V = 0 := HK.out.2.2.1
                have hQ0 : val (l.take 1) = 0 := by
                  rcases l with _ | ⟨x, l⟩
                  · simp at hk'
                  · simp only [List.getElem_cons_zero] at hz
                    simp [val, hz]
                rw [Nat.zero_add, hQ0] at e2
                omega
              have m1 : decide ((9007199254740991 : Int) < (V : Int) + (Q : Int)) = false := by simp; omega
              have HZ := Lib.hid hz
              clear hz
              go_wp2_with (go_at_call 20; refine (CP.out).mono ?_; rintro e w' ⟨v, rfl, ho, hb⟩)
              go_ret3
              have hh : headE l = (V + Q, k + 1, 0) := by rw [HH.out, if_neg (by rintro (h | h); (omega); (omega))]
              rw [HT.out, hh]
              exact ⟨_, rfl, ho, hb⟩
          · have z1 : ((l[k].toNat : Int) == 0) = false := by simp; omega
            have hz0 : l[k] ≠ 0 := fun h => hz (by rw [h]; rfl)
            have HZ := Lib.hid hz0
            clear hz hz0
            by_cases hm : 9007199254740991 < V + Q
            · have m1 : decide ((9007199254740991 : Int) < (V : Int) + (Q : Int)) = true := by simp; omega
              go_wp2_with fail
              go_ret3
              have hh : headE l = (0, 0, 4) := by rw [HH.out, if_pos (.inr hm)]
              rw [HT.out, hh]
              exact ⟨_, rfl, Own.nil _ _, Below.refl _ _⟩
            · have m1 : decide ((9007199254740991 : Int) < (V : Int) + (Q : Int)) = false := by simp; omega
              have hs : k + 1 ≤ n := by omega
              obtain ⟨A', hcut, hr'⟩ := cut_from (some ad) n c (k + 1) l w HL.out hr hs hnc
              have hcut2 : ∀ W : World, (Instr.slice 24 (.slice (some ad) n c) (some (.int .i64 ((k : Int) + 1))) none none).run Try.prog W = .ok (.slice A' (n - (k + 1)) (c - (k + 1))) W := by simpa using hcut
              have cp := copy_any A' (n - (k + 1)) (c - (k + 1)) (l.drop (k + 1)) w (by rw [List.length_drop, HL.out]) hr' (by omega)
              have CP := Lib.hid cp
              clear cp hcut hr' hr
              go_wp2_with (go_at_call 20; refine (CP.out).mono ?_; rintro e w' ⟨v, rfl, ho, hb⟩)
              go_ret3
              have hh : headE l = (V + Q, k + 1, 0) := by rw [HH.out, if_neg (by rintro (h | h); (exact HZ.out h.2); (exact hm h))]
              rw [HT.out, hh]
              exact ⟨_, rfl, ho, hb⟩
        · have hb : decide ((128 : Int) ≤ (l[k].toNat : Int)) = true := by simp; omega
          have hb2 : decide (128 ≤ l[k].toNat) = true := by simp; omega
          go_wp2_with fail
          have he := HK.out.2.2.2.1 hlt
          rw [ext_cons hk', extE, if_neg h1] at he
          refine ⟨⟨k + 1, V + Q, P * 128, by omega, by omega, by omega, by go_num, by go_num, by go_num, by omega, ?_, HV.out.symm, ?_, ?_⟩, by simp [intOf]; omega⟩
          · rw [HK.out.2.1, Nat.pow_succ]
          · intro h
            rw [if_neg (by omega)] at he
            exact he
          · intro h
            rw [if_pos h] at he
            exact he
      · have hb : decide ((n : Int) ≤ (k : Int)) = true := by simp; omega
        have hb2 : decide (n ≤ k) = true := by simp; omega
        go_wp2_with fail
        go_ret3
        have he := HK.out.2.2.2.1 hlt
        rw [List.drop_of_length_le (by have := HL.out; omega)] at he
        have hh : headE l = (0, 0, 3) := by unfold headE; rw [he]; simp [extE]
        rw [HT.out, hh]
        exact ⟨_, rfl, Own.nil _ _, Below.refl _ _⟩
    · go_wp2_with fail
      go_ret3
      have he := HK.out.2.2.2.2 (by omega)
      have hh : headE l = (0, 0, 4) := by unfold headE; rw [he]; simp
      rw [HT.out, hh]
      exact ⟨_, rfl, Own.nil _ _, Below.refl _ _⟩
end Go.Proofs.Ytlblcligjelbgaa
