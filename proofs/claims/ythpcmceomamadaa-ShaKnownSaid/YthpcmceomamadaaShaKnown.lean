/- ShaKnown: the numbers and examples. No condition. -/
import Derived.Test.YthpcmceomamadaaShaKm
import Derived.Test.YthpcmceomamadaaShaRoots
import Derived.Test.YthpcmceomamadaaShaWkPads
import Derived.Test.YthpcmceomamadaaShaBlocks
import Derived.Test.YthpcmceomamadaaShaWkDigests
import Derived.Test.YthpcmceomamadaaShaWkPadded
import Derived.Test.YthpcmceomamadaaShaWkWrites
import Derived.Test.YthpcmceomamadaaShaWkChain
import Derived.Test.YthpcmceomamadaaShaKo
import Derived.Deep.DeepCutAuto
import Derived.StillTailTactics
set_option linter.unusedVariables false
set_option linter.unusedSimpArgs false
namespace Go.Proofs.Ythpcmceomamadaa
open Go.ChangeShapes Go.WideShapes Go.ChangeAt Go.RowKit

theorem blocks_begin (w : World) : Calls Try.prog 5 #[.agg (rowF 8 hW), .slice none 0 0] w (Yes w) := by
  have h := blocks_walk beginE none 0 0 [] w rfl (by omega) (by omega) (Rd.nil _ _)
  have e : rowF 8 hW = rowF 8 beginE.get := rowF_congr 8 (fun j hj => (S8.of_get hW j hj).symm)
  rw [e]
  exact h
theorem blocks_null (h : S8) (n : Nat) (w : World) (hn : n ≤ 1000) : Calls Try.prog 5 #[.agg (rowF 8 h.get), .slice (some ⟨w.heap.size, 0, none⟩) n n] (w.alloc (.cells (nulls n) 5)) (Yes (w.alloc (.cells (nulls n) 5))) :=
  blocks_walk h (some ⟨w.heap.size, 0, none⟩) n n (List.replicate n 0) _ (by simp) (by omega) (by omega) (Rd.litF w (List.replicate n 0) (0, 0))

set_option maxHeartbeats 2000000 in
set_option maxRecDepth 100000 in
theorem known_walk (w : World) : Calls Try.prog 7 #[] w (Yes w) := by
  have kc := fun (w : World) (C : Array Value) (n c : Nat) => Lib.run_convert_bytes_const (P := Try.prog) w 28 5 C n c Try.underlying28 Try.underlying5
  go_enter Try.func7, Try.ntmps7
  go_wp2_with fail
  refine (of_any (some ⟨w.heap.size, 0, none⟩) 56 56 [97, 98, 99, 100, 98, 99, 100, 101, 99, 100, 101, 102, 100, 101, 102, 103, 101, 102, 103, 104, 102, 103, 104, 105, 103, 104, 105, 106, 104, 105, 106, 107, 105, 106, 107, 108, 106, 107, 108, 109, 107, 108, 109, 110, 108, 109, 110, 111, 109, 110, 111, 112, 110, 111, 112, 113] _ rfl (Rd.litF w _ _) (by omega)).mono ?_
  rintro e w1 ⟨rfl, hb1⟩
  have HB1 := Lib.hid (bl_trans (bl_alloc (Below.refl _ _) _) hb1)
  clear hb1
  go_wp2_with fail
  refine (hex_is _ _ know6 _).mono ?_
  rintro e w2 ⟨rfl, hb2⟩
  have HB2 := Lib.hid (bl_trans HB1.out hb2)
  clear hb2 HB1
  go_wp2_with fail
  go_loopw [2] (fun i wr => ∃ n : Nat, n ≤ 140 ∧ i = .int .i64 (n : Int) ∧ Hid (Below w.heap.size w wr)) (fun i _ => 140 - (intOf i).toNat)
  case atStart => exact ⟨0, by omega, rfl, HB2⟩
  case round =>
    clear HB2
    obtain ⟨n, hn, rfl, HB⟩ := hrel
    by_cases hlt : n < 140
    · go_wp2_with fail
      refine (rep_any 120 n _ rfl (by omega) _).mono ?_
      rintro e w3 ⟨rfl, hb3⟩
      have hlen := rep_len 120 n
      generalize rep 120 n = l at *
      obtain ⟨cap, w4, h1, h2, hb4, hr4, hconv⟩ := bytes_of w3 l (by rw [hlen]; simp only [maxLen]; omega)
      rw [hlen] at h1 hconv
      have HL := Lib.hid hlen
      have HR4 := Lib.hid hr4
      have HB4 := Lib.hid (bl_trans (bl_trans HB.out hb3) hb4)
      clear hlen hr4 hb3 hb4 HB
      go_wp2_with fail
      refine (digests_walk (some ⟨w3.heap.size, 0, none⟩) n cap l _ HL.out h1 h2 HR4.out).mono ?_
      rintro e w5 ⟨rfl, hb5⟩
      have HR5 := Lib.hid (HR4.out.below hb5)
      have HB5 := Lib.hid (bl_trans HB4.out hb5)
      clear hb5 HR4 HB4
      go_wp2_with fail
      refine (pads_walk (some ⟨w3.heap.size, 0, none⟩) n cap l _ HL.out h1 h2 HR5.out).mono ?_
      rintro e w6 ⟨rfl, hb6⟩
      have HR6 := Lib.hid (HR5.out.below hb6)
      have HB6 := Lib.hid (bl_trans HB5.out hb6)
      clear hb6 HR5 HB5
      go_wp2_with fail
      refine (padded_walk (some ⟨w3.heap.size, 0, none⟩) n cap l _ HL.out h1 h2 HR6.out).mono ?_
      rintro e w7 ⟨rfl, hb7⟩
      have HR7 := Lib.hid (HR6.out.below hb7)
      have HB7 := Lib.hid (bl_trans HB6.out hb7)
      clear hb7 HR6 HB6
      go_wp2_with fail
      refine (chain_walk (some ⟨w3.heap.size, 0, none⟩) n cap l (n : Int) _ HL.out h1 h2 HR7.out (by omega) (by omega)).mono ?_
      rintro e w8 ⟨rfl, hb8⟩
      have HB8 := Lib.hid (bl_trans HB7.out hb8)
      clear hb8 HR7 HB7 hconv
      go_wp2_with fail
      exact ⟨⟨n + 1, by omega, by go_num, HB8⟩, by simp [intOf]; omega⟩
    · obtain rfl : n = 140 := by omega
      try simp only [Nat.cast_ofNat]
      have hp := powZ_lit wr
      have hP := Lib.hid (hp.below (bl_alloc (Below.refl _ _) (.cells #[.int .i64 (-1), .int .i64 0, .int .i64 1, .int .i64 2, .int .i64 3, .int .i64 311, .int .i64 999, .int .i64 1000, .int .i64 1001, .int .i64 9223372036854775807, .int .i64 (-9223372036854775808)] 3)))
      have hq := numZ_lit (wr.alloc (.cells #[.int .i64 (-1), .int .i64 0, .int .i64 1, .int .i64 2, .int .i64 3, .int .i64 4] 3))
      rw [World.size_alloc] at hq
      have hQ := Lib.hid hq
      have hBa := Lib.hid (bl_alloc (bl_alloc HB.out (.cells #[.int .i64 (-1), .int .i64 0, .int .i64 1, .int .i64 2, .int .i64 3, .int .i64 4] 3)) (.cells #[.int .i64 (-1), .int .i64 0, .int .i64 1, .int .i64 2, .int .i64 3, .int .i64 311, .int .i64 999, .int .i64 1000, .int .i64 1001, .int .i64 9223372036854775807, .int .i64 (-9223372036854775808)] 3))
      clear hp hq HB
      go_wp2_with fail
      generalize (wr.alloc (.cells #[.int .i64 (-1), .int .i64 0, .int .i64 1, .int .i64 2, .int .i64 3, .int .i64 4] 3)).alloc (.cells #[.int .i64 (-1), .int .i64 0, .int .i64 1, .int .i64 2, .int .i64 3, .int .i64 311, .int .i64 999, .int .i64 1000, .int .i64 1001, .int .i64 9223372036854775807, .int .i64 (-9223372036854775808)] 3) = wa at *
      generalize hgQ : wr.heap.size + 1 = Q at *
      generalize wr.heap.size = P at *
      clear hgQ
      go_loopw [6] (fun i wr => ∃ k : Nat, k ≤ 6 ∧ i = .int .i64 (k : Int) ∧ Hid (RdZ wr P 6 powZ) ∧ Hid (RdZ wr Q 11 numZ) ∧ Hid (Below w.heap.size w wr)) (fun i _ => 6 - (intOf i).toNat)
      case atStart => exact ⟨0, by omega, rfl, hP, hQ, hBa⟩
      case round =>
        clear hP hQ hBa
        obtain ⟨k, hk, rfl, HP, HQ, HB⟩ := hrel
        by_cases hlt : k < 6
        · have hb6 : decide ((k : Int) < 6) = true := by simp; omega
          go_wp2_with fail
          go_loopw [7] (fun i wr => ∃ m : Nat, m ≤ 11 ∧ i = .int .i64 (m : Int) ∧ Hid (RdZ wr P 6 powZ) ∧ Hid (RdZ wr Q 11 numZ) ∧ Hid (Below w.heap.size w wr)) (fun i _ => 11 - (intOf i).toNat)
          case atStart => exact ⟨0, by omega, rfl, HP, HQ, HB⟩
          case round =>
            clear HP HQ HB
            clear hb6
            obtain ⟨m, hm, rfl, HP, HQ, HB⟩ := hrel
            by_cases hlm : m < 11
            · have c1 := HP.out.2 k hlt
              have c2 := HQ.out.2 m hlm
              obtain ⟨b1, b2⟩ := powZ_in k hlt
              obtain ⟨b3, b4⟩ := numZ_in m hlm
              generalize powZ k = x at c1 b1 b2
              generalize numZ m = y at c2 b3 b4
              have HC := Lib.hid (fun W => roots_walk x y W b1 b2 b3 b4)
              clear b1 b2 b3 b4
              go_wp2_with fail
              have hk6 : (k : Int) < 6 := by omega
              have hm6 : (m : Int) < 11 := by omega
              go_still_tail 8, (by kernel_rfl)
              have hd := Below.drew (Below.refl wr.heap.size wr)
              have HP1 := Lib.hid (HP.out.below hd)
              have HQ1 := Lib.hid (HQ.out.below hd)
              have HB1 := Lib.hid (bl_trans HB.out hd)
              clear hd HP HQ HB c1 c2 hk6 hm6
              change wpList _ _ _ _ _ wr.drew
              generalize wr.drew = wb at *
              go_wp2_with fail
              (with_reducible refine (HC.out _).mono ?_)
              rintro e wc ⟨rfl, hbc⟩
              have HP2 := Lib.hid (HP1.out.below hbc)
              have HQ2 := Lib.hid (HQ1.out.below hbc)
              have HB2 := Lib.hid (bl_trans HB1.out hbc)
              clear hbc HP1 HQ1 HB1 HC
              go_wp2_with fail
              go_roundw
              case rel =>
                repeat apply Exists.intro
                refine ⟨?_, rfl⟩
                exact ⟨m + 1, by omega, by go_num, HP2, HQ2, HB2⟩
              all_goals (simp [intOf]; omega)
            · obtain rfl : m = 11 := by omega
              try simp only [Nat.cast_ofNat]
              go_wp2_with fail
              exact ⟨⟨k + 1, by omega, by go_num, HP, HQ, HB⟩, by simp [intOf]; omega⟩
        · obtain rfl : k = 6 := by omega
          try simp only [Nat.cast_ofNat]
          clear HP HQ
          go_wp2_with fail
          refine (rep_any 48 63 63 rfl (by omega) _).mono ?_
          rintro e s0 ⟨rfl, hb⟩
          have HB := Lib.hid (bl_trans HB.out hb)
          have hl0 : Hid ((rep 48 63).length ≤ 99) := by show _ ≤ _; rw [rep_len]; omega
          generalize rep 48 63 = l0 at *
          clear hb
          go_wp2_with fail
          refine (rep_any 48 64 64 rfl (by omega) _).mono ?_
          rintro e s1 ⟨rfl, hb⟩
          have HB := Lib.hid (bl_trans HB.out hb)
          have hl1 : Hid ((rep 48 64).length ≤ 99) := by show _ ≤ _; rw [rep_len]; omega
          generalize rep 48 64 = l1 at *
          clear hb
          go_wp2_with fail
          refine (rep_any 102 64 64 rfl (by omega) _).mono ?_
          rintro e s2 ⟨rfl, hb⟩
          have HB := Lib.hid (bl_trans HB.out hb)
          have hl2 : Hid ((rep 102 64).length ≤ 99) := by show _ ≤ _; rw [rep_len]; omega
          generalize rep 102 64 = l2 at *
          clear hb
          go_wp2_with fail
          refine (rep_any 70 64 64 rfl (by omega) _).mono ?_
          rintro e s3 ⟨rfl, hb⟩
          have HB := Lib.hid (bl_trans HB.out hb)
          have hl3 : Hid ((rep 70 64).length ≤ 99) := by show _ ≤ _; rw [rep_len]; omega
          generalize rep 70 64 = l3 at *
          clear hb
          go_wp2_with fail
          refine (rep_any 103 64 64 rfl (by omega) _).mono ?_
          rintro e s4 ⟨rfl, hb⟩
          have HB := Lib.hid (bl_trans HB.out hb)
          have hl4 : Hid ((rep 103 64).length ≤ 99) := by show _ ≤ _; rw [rep_len]; omega
          generalize rep 103 64 = l4 at *
          clear hb
          go_wp2_with fail
          refine (rep_any 47 64 64 rfl (by omega) _).mono ?_
          rintro e s5 ⟨rfl, hb⟩
          have HB := Lib.hid (bl_trans HB.out hb)
          have hl5 : Hid ((rep 47 64).length ≤ 99) := by show _ ≤ _; rw [rep_len]; omega
          generalize rep 47 64 = l5 at *
          clear hb
          go_wp2_with fail
          refine (rep_any 58 64 64 rfl (by omega) _).mono ?_
          rintro e s6 ⟨rfl, hb⟩
          have HB := Lib.hid (bl_trans HB.out hb)
          have hl6 : Hid ((rep 58 64).length ≤ 99) := by show _ ≤ _; rw [rep_len]; omega
          generalize rep 58 64 = l6 at *
          clear hb
          go_wp2_with fail
          refine (rep_any 97 65 65 rfl (by omega) _).mono ?_
          rintro e s7 ⟨rfl, hb⟩
          have HB := Lib.hid (bl_trans HB.out hb)
          have hl7 : Hid ((rep 97 65).length ≤ 99) := by show _ ≤ _; rw [rep_len]; omega
          generalize rep 97 65 = l7 at *
          clear hb
          go_wp2_with fail
          refine (rep_any 57 63 63 rfl (by omega) _).mono ?_
          rintro e s8 ⟨rfl, hb⟩
          have HB := Lib.hid (bl_trans HB.out hb)
          have hl8 : Hid ((rep 57 63).length ≤ 99) := by show _ ≤ _; rw [rep_len]; omega
          generalize rep 57 63 = l8 at *
          clear hb
          have hx : l8.length + 1 ≤ 9223372036854775807 := by have := hl8.out; omega
          have HT0 := Lib.hid (texts_lit s8 l0 l1 l2 l3 l4 l5 l6 l7 l8 hl0.out hl1.out hl2.out hl3.out hl4.out hl5.out hl6.out hl7.out hl8.out)
          have HB0 := Lib.hid (bl_alloc HB.out (.cells #[.string ⟨#[]⟩, .string ⟨l0.toArray⟩, .string ⟨l1.toArray⟩, .string ⟨l2.toArray⟩, .string ⟨l3.toArray⟩, .string ⟨l4.toArray⟩, .string ⟨l5.toArray⟩, .string ⟨l6.toArray⟩, .string ⟨l7.toArray⟩, .string (⟨l8.toArray⟩ ++ ⟨#[32]⟩)] 9))
          clear HB hl0 hl1 hl2 hl3 hl4 hl5 hl6 hl7 hl8
          go_wp2_with fail
          generalize s8.alloc (.cells #[.string ⟨#[]⟩, .string ⟨l0.toArray⟩, .string ⟨l1.toArray⟩, .string ⟨l2.toArray⟩, .string ⟨l3.toArray⟩, .string ⟨l4.toArray⟩, .string ⟨l5.toArray⟩, .string ⟨l6.toArray⟩, .string ⟨l7.toArray⟩, .string (⟨l8.toArray⟩ ++ ⟨#[32]⟩)] 9) = t0 at *
          generalize s8.heap.size = T at *
          clear hx
          go_loopw [9] (fun i wr => ∃ k : Nat, k ≤ 10 ∧ i = .int .i64 (k : Int) ∧ Hid (RdT wr T 10) ∧ Hid (Below w.heap.size w wr)) (fun i _ => 10 - (intOf i).toNat)
          case atStart => exact ⟨0, by omega, rfl, HT0, HB0⟩
          case round =>
            clear HT0 HB0
            obtain ⟨k, hk, rfl, HT, HB⟩ := hrel
            by_cases hlk : k < 10
            · obtain ⟨l, hl, hc⟩ := HT.out.2 k hlk
              obtain ⟨b, hb⟩ : ∃ b, UInt8.ofNat k = b := ⟨_, rfl⟩
              have hb0 : b.toNat = k := by rw [← hb, UInt8.toNat_ofNat']; omega
              have hb1 : IntKind.u8.wrap (k : Int) = (b.toNat : Int) := by rw [IntKind.wrap_u8]; omega
              have hb2 : (k : Int) % 256 = (b.toNat : Int) := by omega
              have HW := Lib.hid (fun W => writes_walk (digA b) l W (by simp only [maxLen]; omega))
              have HK := Lib.hid (fun W => back_walk (digB b) l W (by simp only [maxLen]; omega))
              clear hb hb0 hl
              go_wp2_with (refine wpList_buildG (by rfl) 37 _ rfl (some 84) rfl (rowB 32 (digA b)) (by simp only [List.map_toArray, List.map_cons, List.map_nil]; simp [Act.eval]; exact builtA b) ?_)
              (with_reducible refine (HW.out _).mono ?_)
              rintro e v1 ⟨rfl, hbv⟩
              have hc' := (hbv.cell (p := ⟨T, k, none⟩) HT.out.1).trans hc
              have HT1 := Lib.hid (HT.out.below hbv)
              have HB1 := Lib.hid (bl_trans HB.out hbv)
              clear hbv hc HT HB
              go_wp2_with (refine wpList_buildG (by rfl) 37 _ rfl (some 94) rfl (rowB 32 (digB b)) (by simp only [List.map_toArray, List.map_cons, List.map_nil]; simp [Act.eval]; exact builtB b) ?_)
              (with_reducible refine (HK.out _).mono ?_)
              rintro e v2 ⟨rfl, hbv⟩
              have HT2 := Lib.hid (HT1.out.below hbv)
              have HB2 := Lib.hid (bl_trans HB1.out hbv)
              clear hbv hc' HT1 HB1 hb1 hb2
              go_wp2_with fail
              exact ⟨⟨k + 1, by omega, by go_num, HT2, HB2⟩, by simp [intOf]; omega⟩
            · obtain rfl : k = 10 := by omega
              try simp only [Nat.cast_ofNat]
              have m63 := fun W => make_bytes 63 63 rfl (by omega) W
              have m64 := fun W => make_bytes 64 64 rfl (by omega) W
              have m65 := fun W => make_bytes 65 65 rfl (by omega) W
              clear HT
              go_wp2_with fail
              refine (awake_any _).mono ?_
              rintro e v1 ⟨rfl, hbv⟩
              have HB1 := Lib.hid (bl_trans HB.out hbv)
              clear hbv HB
              go_wp2_with fail
              refine (begin_f _).mono ?_
              rintro e v2 ⟨rfl, hbv⟩
              have HB2 := Lib.hid (bl_trans HB1.out hbv)
              clear hbv HB1
              go_wp2_with fail
              refine (blocks_begin _).mono ?_
              rintro e v3 ⟨rfl, hbv⟩
              have HB3 := Lib.hid (bl_trans HB2.out hbv)
              clear hbv HB2
              go_wp2_with (refine wpList_buildG (by rfl) 31 _ rfl (some 113) rfl (rowF 8 (S8.of fun _ => 0).get) (by simp only [List.map_toArray, List.map_cons, List.map_nil]; simp [Act.eval]; exact built0) ?_)
              refine (blocks_null _ 63 v3 (by omega)).mono ?_
              rintro e v4 ⟨rfl, hbv⟩
              have HB4 := Lib.hid (bl_trans (bl_alloc HB3.out _) hbv)
              clear hbv HB3
              go_wp2_with (refine wpList_buildG (by rfl) 31 _ rfl (some 118) rfl (rowF 8 (S8.of fun j => if j = 0 then 4294967295 else 0).get) (by simp only [List.map_toArray, List.map_cons, List.map_nil]; simp [Act.eval]; exact built1) ?_)
              refine (blocks_null _ 64 v4 (by omega)).mono ?_
              rintro e v5 ⟨rfl, hbv⟩
              have HB5 := Lib.hid (bl_trans (bl_alloc HB4.out _) hbv)
              clear hbv HB4
              go_wp2_with (refine wpList_buildG (by rfl) 31 _ rfl (some 123) rfl (rowF 8 (S8.of fun _ => 0).get) (by simp only [List.map_toArray, List.map_cons, List.map_nil]; simp [Act.eval]; exact built0) ?_)
              refine (blocks_null _ 65 v5 (by omega)).mono ?_
              rintro e v6 ⟨rfl, hbv⟩
              clear m63 m64 m65
              go_wp2
              go_ret
              exact ⟨rfl, bl_trans (bl_alloc HB5.out _) hbv⟩

set_option maxRecDepth 100000 in
theorem ShaKnown_holds : Rows.ShaKnownSaid :=
  OpenClaim.holds_of_wide 7 Try.f7 rfl rfl rfl rfl rfl rfl rfl ⟨rfl, rfl, rfl, rfl, rfl⟩ rfl rfl rfl rfl rfl (by kernel_rfl) Try.func7 (by kernel_rfl)
    (of_decide_eq_true (by kernel_rfl)) (by unfold Func.isWrapper; first | (rw [if_pos (by decide +kernel)]; kernel_rfl) | (rw [if_neg (by decide +kernel)]; exact ⟨rfl, rfl⟩))
    (fun os started H enc _ => law_lifted (s := Rows.shaKnownSpec) Try.func7 (by kernel_rfl) rfl
      (fun H ds h => by rw [Try.params7] at h; match ds, h with | [], _ => rfl) (by kernel_rfl) (by kernel_rfl)
      os started H enc
      (ChangeSpec.witness6 (enc := enc) (C := Try.checked) false ⟨#[], #[], []⟩ 8 (by kernel_rfl) (by kernel_rfl) (by kernel_rfl) (by kernel_rfl))
      (fun W args ds p h => by
        obtain ⟨⟨base, hok⟩, hA, hl⟩ := h
        rw [Try.params7] at hok hA hl
        obtain ⟨hargs, rfl, rfl⟩ := trodAll_nil hA
        obtain rfl : args = #[] := by cases args; simp_all
        exact known_walk W))

end Go.Proofs.Ythpcmceomamadaa
