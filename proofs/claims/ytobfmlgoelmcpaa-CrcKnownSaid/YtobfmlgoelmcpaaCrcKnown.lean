/- CrcKnown: the law, which is handed nothing, answers true: the chapter's examples, and others; each byte alone. No condition. -/
import Derived.Test.YtobfmlgoelmcpaaCrcReach
import Derived.Test.YtobfmlgoelmcpaaCrcPlaces
set_option linter.unusedVariables false
namespace Go.Proofs.Ytobfmlgoelmcpaa
open Go.ChangeShapes Go.WideShapes Go.ChangeAt Go.RowKit

theorem word_of (z : Int) (h0 : 0 ≤ z) (h1 : z ≤ 4294967295) : ∃ s : BitVec 32, (s.toNat : Int) = z := ⟨BitVec.ofNat 32 z.toNat, by rw [BitVec.toNat_ofNat, Nat.mod_eq_of_lt (by omega), Int.toNat_of_nonneg h0]⟩

theorem back_lit (y z : Int) (n c : Nat) (A : Option Addr) (l : List UInt8) (w : World) (hy : 0 ≤ y ∧ y ≤ 4294967295) (hz : 0 ≤ z ∧ z ≤ 4294967295) (hl : l.length = n) (hnc : n ≤ c) (hc : c ≤ 1000) (hr : Rd w A l) :
    Calls Try.prog 5 #[.int .u32 y, .int .u32 z, .slice A n c] w (Yes w) := by
  obtain ⟨s, rfl⟩ := word_of y hy.1 hy.2
  obtain ⟨t, rfl⟩ := word_of z hz.1 hz.2
  exact back_walk s t A n c l w hl hnc (by omega) hr
theorem reach_lit (y z : Int) (n c : Nat) (A : Option Addr) (l : List UInt8) (w : World) (hy : 0 ≤ y ∧ y ≤ 4294967295) (hz : 0 ≤ z ∧ z ≤ 4294967295) (hl : l.length = n) (hnc : n ≤ c) (hc : c ≤ 1000) (hr : Rd w A l) :
    Calls Try.prog 6 #[.slice A n c, .int .u32 y, .int .u32 z] w (Yes w) := by
  obtain ⟨s, rfl⟩ := word_of y hy.1 hy.2
  obtain ⟨t, rfl⟩ := word_of z hz.1 hz.2
  exact reach_walk A n c l s t w hl hnc (by omega) hr

theorem byte_cell (k : Nat) (hk : k < 256) : Value.int .u8 (k : Int) = bv (UInt8.ofNat k) := by
  unfold bv
  rw [UInt8.toNat_ofNat', Nat.mod_eq_of_lt (by omega)]
theorem rd_byte (w : World) (k : Nat) (hk : k < 256) : Rd (w.alloc (.cells #[.int .u8 (k : Int)] 5)) (some ⟨w.heap.size, 0, none⟩) [UInt8.ofNat k] := by
  rw [byte_cell k hk]
  exact Rd.litF w [UInt8.ofNat k] (0, 0)
theorem rd_byte7 (w : World) (k : Nat) (hk : k < 256) : Rd (w.alloc (.cells #[.int .u8 (k : Int), .int .u8 7] 5)) (some ⟨w.heap.size, 0, none⟩) [UInt8.ofNat k, 7] := by
  rw [byte_cell k hk]
  exact Rd.litF w [UInt8.ofNat k, 7] (0, 0)
theorem rd9 (w : World) : Rd (w.alloc (.cells #[.int .u8 49, .int .u8 50, .int .u8 51, .int .u8 52, .int .u8 53, .int .u8 54, .int .u8 55, .int .u8 56, .int .u8 57] 5 (9, 10))) (some ⟨w.heap.size, 0, none⟩) nine := Rd.litF w nine (9, 10)
theorem z4 : ofE (List.replicate 4 0) = 558161692#32 := by decide +kernel
theorem z5 : ofE (List.replicate 5 0) = 3324180253#32 := by decide +kernel
theorem on5nil (w : World) : Calls Try.prog 14 #[.int .u32 5, .slice none 0 0] w (GotN w 5) := on_known (l := []) (s := 5#32) rfl (Rd.nil _ _) (by omega) (onE_nil _) rfl rfl

set_option maxHeartbeats 1000000 in
set_option maxRecDepth 20000 in
theorem known_walk (w : World) : Calls Try.prog 10 #[] w (Yes w) := by
  have kc := fun (w : World) (C : Array Value) (n c : Nat) => Lib.run_convert_bytes_const (P := Try.prog) w 23 5 C n c Try.underlying23 Try.underlying5
  have KC := Lib.hid kc
  clear kc
  go_enter Try.func10, Try.ntmps10
  go_wp2_with fail
  go_loopw [1] (fun iv wr => ∃ k : Nat, k ≤ 256 ∧ iv = .int .i64 (k : Int) ∧ Below w.heap.size w wr) (fun i _ => 256 - (intOf i).toNat)
  case atStart => exact ⟨0, by omega, rfl, Below.refl _ _⟩
  case round =>
    obtain ⟨k, hk, rfl, hB⟩ := hrel
    by_cases hlt : k < 256
    · go_wp2_with fail
      refine (back_lit _ _ 1 1 _ _ _ (by omega) (by omega) rfl (by omega) (by omega) (rd_byte wr k hlt)).mono ?_
      rintro e w1 ⟨rfl, hb1⟩
      have hr1 := (rd_byte wr k hlt).below hb1
      have hB1 := bl_trans hB (bl_of_alloc hb1)
      have hw1 : wr.heap.size < w1.heap.size := by have := hb1.size; simp at this; omega
      clear hb1
      go_wp2_with fail
      refine (reach_lit _ _ 1 1 _ _ _ (by omega) (by omega) rfl (by omega) (by omega) hr1).mono ?_
      rintro e w2 ⟨rfl, hb2⟩
      have hB2 := bl_trans hB1 hb2
      clear hb2 hr1
      go_wp2_with fail
      refine (places_walk _ 2 2 _ (k : Int) _ rfl (by omega) (by omega) (rd_byte7 w2 k hlt) (by omega) (by omega)).mono ?_
      rintro e w3 ⟨rfl, hb3⟩
      have hB3 := bl_trans hB2 (bl_of_alloc hb3)
      clear hb3
      go_wp2
      exact ⟨⟨k + 1, by omega, by go_num, hB3⟩, by simp [intOf]; omega⟩
    · have kc := KC.out
      go_wp2_with fail
      refine (works_any _).mono ?_
      rintro e w1 ⟨rfl, hb1⟩
      have hB1 := bl_trans hB hb1
      clear hb1
      go_wp2_with fail
      refine (on_known (n := 9) (s := 0#32) (x := 3421780262#32) (z := 3421780262) rfl (rd9 w1) (by omega) sum9 rfl rfl).mono ?_
      rintro e w2 ⟨rfl, hb2⟩
      have hB2 := bl_trans hB1 (bl_of_alloc hb2)
      clear hb2 kc
      go_wp2_with fail
      refine (on5nil w2).mono ?_
      rintro e w3 ⟨rfl, hb3⟩
      have hB3 := bl_trans hB2 hb3
      clear hb3
      have m4 := make_bytes 4 4 rfl (by omega)
      have m5 := make_bytes 5 5 rfl (by omega)
      go_wp2_with fail
      refine (of_known (n := 4) (z := 558161692) rfl (rd_nulls w3 4) (by omega) z4 rfl).mono ?_
      rintro e w4 ⟨rfl, hb4⟩
      have hB4 := bl_trans hB3 (bl_of_alloc hb4)
      clear hb4
      go_wp2_with fail
      refine (of_known (n := 5) (z := 3324180253) rfl (rd_nulls w4 5) (by omega) z5 rfl).mono ?_
      rintro e w5 ⟨rfl, hb5⟩
      have hB5 := bl_trans hB4 (bl_of_alloc hb5)
      clear hb5
      go_wp2
      go_ret
      exact ⟨rfl, hB5⟩

set_option maxRecDepth 100000 in
theorem CrcKnown_holds : Rows.CrcKnownSaid :=
  OpenClaim.holds_of_wide 10 Try.f10 rfl rfl rfl rfl rfl rfl rfl ⟨rfl, rfl, rfl, rfl, rfl⟩ rfl rfl rfl rfl rfl (by kernel_rfl) Try.func10 (by kernel_rfl)
    (of_decide_eq_true (by kernel_rfl)) (by unfold Func.isWrapper; first | (rw [if_pos (by decide +kernel)]; kernel_rfl) | (rw [if_neg (by decide +kernel)]; exact ⟨rfl, rfl⟩))
    (fun os started H enc _ => law_lifted (s := Rows.crcKnownSpec) Try.func10 (by kernel_rfl) rfl
      (fun H ds h => by rw [Try.params10] at h; match ds, h with | [], _ => rfl) (by kernel_rfl) (by kernel_rfl)
      os started H enc
      (ChangeSpec.witness6 (enc := enc) (C := Try.checked) false ⟨#[], #[], []⟩ 8 (by kernel_rfl) (by kernel_rfl) (by kernel_rfl) (by kernel_rfl))
      (fun W args ds p h => by
        obtain ⟨⟨base, hok⟩, hA, hl⟩ := h
        rw [Try.params10] at hok hA hl
        obtain ⟨hargs, rfl, rfl⟩ := trodAll_nil hA
        obtain rfl : args = #[] := by cases args; simp_all
        exact known_walk W))

end Go.Proofs.Ytobfmlgoelmcpaa
