/- CrcNoughts: for every two ints the law answers true: two lists of noughts alone have the same sum just if they are as long. No condition. -/
import Derived.Test.YtobfmlgoelmcpaaCrcD
import Derived.Test.YtobfmlgoelmcpaaRow32
set_option linter.unusedVariables false
namespace Go.Proofs.Ytobfmlgoelmcpaa
open Go.ChangeShapes Go.WideShapes Go.ChangeAt Go.RowKit

theorem of_nulls {W : World} {A : Option Addr} {n : Nat} (hn : n ≤ 5000) (hr : Rd W A (List.replicate n 0)) : Calls Try.prog 12 #[.slice A n n] W (Got32 W (ofE (List.replicate n 0))) :=
  of_any A n n _ W (by simp) hr (by simp [maxLen]; omega)
theorem rd_first (W : World) (n : Nat) (o : Obj) : Rd ((W.alloc (.cells (nulls n) 5)).alloc o).drew (some ⟨W.heap.size, 0, none⟩) (List.replicate n 0) := (rd_nulls W n).alloc o
theorem rd_second (W : World) (n : Nat) (o : Obj) : Rd ((W.alloc o).alloc (.cells (nulls n) 5)).drew (some ⟨W.heap.size + 1, 0, none⟩) (List.replicate n 0) := by
  have h := rd_nulls (W.alloc o) n
  have e : (W.alloc o).heap.size = W.heap.size + 1 := by simp
  rw [e] at h
  exact h
theorem rd_alone (W : World) (n : Nat) : Rd (W.alloc (.cells (nulls n) 5)).drew (some ⟨W.heap.size, 0, none⟩) (List.replicate n 0) := rd_nulls W n
theorem bl_two {w W : World} (h : Below w.heap.size w W) (o o' : Obj) : Below w.heap.size w ((W.alloc o).alloc o').drew := bl_drewN (bl_alloc (bl_alloc h o) o') 1
theorem bl_one {w W : World} (h : Below w.heap.size w W) (o : Obj) : Below w.heap.size w (W.alloc o).drew := bl_drewN (bl_alloc h o) 1

def Got32N (w W : World) (n : Nat) (e : Ending) (W' : World) : Prop := e = .returned (.int .u32 ((ofE (List.replicate n 0)).toNat : Int)) ∧ Below w.heap.size w W'

set_option maxHeartbeats 1000000 in
set_option maxRecDepth 20000 in
theorem noughts_walk (m n : Int) (w : World) (h1 : -9223372036854775808 ≤ m) (h2 : m ≤ 9223372036854775807) (h3 : -9223372036854775808 ≤ n) (h4 : n ≤ 9223372036854775807) :
    Calls Try.prog 9 #[.int .i64 m, .int .i64 n] w (Yes w) := by
  obtain ⟨a, ha, _, HA⟩ := bring_nat m 5000 h1 h2 (by omega) (by omega)
  obtain ⟨b, hb, _, HB⟩ := bring_nat n 5000 h3 h4 (by omega) (by omega)
  have hs := noughts_inj ha hb
  generalize hx : ofE (List.replicate a 0) = x at *
  generalize hy : ofE (List.replicate b 0) = y at *
  have ca : ∀ (W : World) (A : Option Addr), Rd W A (List.replicate a 0) → Calls Try.prog 12 #[.slice A a a] W (Got32 W x) := fun _ _ h => hx ▸ of_nulls (by omega) h
  have cb : ∀ (W : World) (A : Option Addr), Rd W A (List.replicate b 0) → Calls Try.prog 12 #[.slice A b b] W (Got32 W y) := fun _ _ h => hy ▸ of_nulls (by omega) h
  have CA := Lib.hid ca
  have CB := Lib.hid cb
  clear ca cb hx hy
  have mka := make_bytes a a rfl (by omega)
  have mkb := make_bytes b b rfl (by omega)
  have heq : ((x.toNat : Int) == (y.toNat : Int)) = ((a : Int) == (b : Int)) := by
    by_cases h : a = b
    · have h' := hs.2 h
      rw [h', h]
      simp
    · rw [ne32 (fun e => h (hs.1 e))]
      simp
      omega
  have HE := Lib.hid heq
  clear heq hs
  go_enter Try.func9, Try.ntmps9
  go_wp2_with fail
  refine (works_any w).mono ?_
  rintro e w1 ⟨rfl, hB1⟩
  go_wp2_with fail
  refine (HA.out w1).mono ?_
  rintro e w1' ⟨rfl, rfl⟩
  go_wp2_with fail
  refine (HB.out w1).mono ?_
  rintro e w1' ⟨rfl, rfl⟩
  go_wp2_with fail
  go_region_with (first
    | (go_at_call 12; (with_reducible refine (CA.out _ _ (rd_first w1 a (.cells (nulls b) 5))).mono ?_); rintro e w2 ⟨rfl, hb2⟩; have hR2 := (rd_second w1 b (.cells (nulls a) 5)).below hb2; have hB2 := bl_trans (bl_two hB1 _ _) hb2; clear hb2)
    | (go_at_call 12; (with_reducible refine (CA.out _ _ (rd_second w1 a (.cells (nulls b) 5))).mono ?_); rintro e w2 ⟨rfl, hb2⟩; have hR2 := (rd_first w1 b (.cells (nulls a) 5)).below hb2; have hB2 := bl_trans (bl_two hB1 _ _) hb2; clear hb2)
    | (go_at_call 12; (with_reducible refine (CA.out _ _ (rd_alone w1 a)).mono ?_); rintro e w2 ⟨rfl, hb2⟩; have hB2 := bl_trans (bl_one hB1 _) hb2; clear hb2)
    | (go_at_call 12; (with_reducible refine (CB.out _ _ hR2).mono ?_); rintro e w3 ⟨rfl, hb3⟩; have hB3 := bl_trans hB2 hb3; clear hb3)
    | (go_at_call 12; (with_reducible refine (CB.out _ _ (rd_nulls w2 b)).mono ?_); rintro e w3 ⟨rfl, hb3⟩; have hB3 := bl_trans hB2 (bl_of_alloc hb3); clear hb3))
  all_goals
    go_wp2
    go_ret
    refine ⟨?_, hB3⟩
    show Ending.returned (.bool (((x.toNat : Int) == (y.toNat : Int)) == ((a : Int) == (b : Int)))) = _
    rw [HE.out]
    simp

set_option maxRecDepth 100000 in
theorem CrcNoughts_holds : Rows.CrcNoughtsSaid :=
  OpenClaim.holds_of_wide 9 Try.f9 rfl rfl rfl rfl rfl rfl rfl ⟨rfl, rfl, rfl, rfl, rfl⟩ rfl rfl rfl rfl rfl (by kernel_rfl) Try.func9 (by kernel_rfl)
    (of_decide_eq_true (by kernel_rfl)) (by unfold Func.isWrapper; first | (rw [if_pos (by decide +kernel)]; kernel_rfl) | (rw [if_neg (by decide +kernel)]; exact ⟨rfl, rfl⟩))
    (fun os started H enc _ => law_lifted (s := Rows.crcNoughtsSpec) Try.func9 (by kernel_rfl) rfl
      (fun H ds h => by rw [Try.params9] at h; match ds, h with | [_, _], _ => rfl) (by kernel_rfl) (by kernel_rfl)
      os started H enc
      (ChangeSpec.witness6 (enc := enc) (C := Try.checked) false ⟨#[], #[.int .i64 0, .int .i64 0], []⟩ 8 (by kernel_rfl) (by kernel_rfl) (by kernel_rfl) (by kernel_rfl))
      (fun W args ds p h => by
        obtain ⟨⟨base, hok⟩, hA, hl⟩ := h
        rw [Try.params9] at hok hA hl
        obtain ⟨v0, v1, d0, d1, p0, p1, rfl, rfl, rfl, g0, g1⟩ := trodAll_two hA
        obtain ⟨n0, rfl, a0, b0⟩ := open_i64 (hok 0 3 v0 rfl rfl) g0
        obtain ⟨n1, rfl, a1, b1⟩ := open_i64 (hok 1 3 v1 rfl rfl) g1
        exact noughts_walk n0 n1 W a0 b0 a1 b1))

end Go.Proofs.Ytobfmlgoelmcpaa
