/- RegexWritten: bytes, escaped, take themselves, one behind the other; in brackets, too; as a class any of them: whatever bytes and byte are handed in. Under: math/bits' table as the row lists it. -/
import Derived.Test.YteedmkokbapkgaaDoorRgHx
import Derived.Test.YteedmkokbapkgaaDoorRgRow
import Derived.BigQuiet
set_option linter.unusedVariables false
set_option linter.unusedSimpArgs false
namespace Go.Proofs.YteedmkokbapkgaaDoor
open Go.ChangeShapes Go.WideShapes Go.ChangeAt Go.RowKit

theorem str_add (a b : List UInt8) (ha : a.length ≤ 8388608) (hb : b.length ≤ 8388608) (W : World) : (Op.stringOp .add ⟨a.toArray⟩ ⟨b.toArray⟩).run Tryd.prog W = .ok (.string ⟨(a ++ b).toArray⟩) W := by
  have h := run_string_add (P := Tryd.prog) (w := W) (⟨a.toArray⟩ : ByteArray) (⟨b.toArray⟩ : ByteArray) (by show ((a.toArray.size : Nat) : Int) ≤ _; simp; omega) (by show ((b.toArray.size : Nat) : Int) ≤ _; simp; omega)
  rw [h, ByteArray.mk_append_mk]
set_option maxRecDepth 20000 in
theorem dig_cut (q : Nat) (hq : q < 16) (W : World) : (Instr.slice 9 (.string ⟨#[48, 49, 50, 51, 52, 53, 54, 55, 56, 57, 97, 98, 99, 100, 101, 102]⟩) (some (.int .u8 (q : Int))) (some (.int .u8 ((q : Int) + 1))) none).run Tryd.prog W = .ok (.string ⟨#[dgts.getD q 0]⟩) W := by
  have h := run_slice_string (P := Tryd.prog) (w := W) 9 (⟨#[48, 49, 50, 51, 52, 53, 54, 55, 56, 57, 97, 98, 99, 100, 101, 102]⟩ : ByteArray) .u8 .u8 (q : Int) ((q : Int) + 1) Tryd.underlying9 (by omega) (by omega) (by show _ ≤ ((16 : Nat) : Int); omega)
  rw [h]
  congr 2
  match q, hq with
  | 0, _ => rfl
  | 1, _ => rfl
  | 2, _ => rfl
  | 3, _ => rfl
  | 4, _ => rfl
  | 5, _ => rfl
  | 6, _ => rfl
  | 7, _ => rfl
  | 8, _ => rfl
  | 9, _ => rfl
  | 10, _ => rfl
  | 11, _ => rfl
  | 12, _ => rfl
  | 13, _ => rfl
  | 14, _ => rfl
  | 15, _ => rfl
  | n + 16, h => exact absurd h (by omega)

attribute [-go_sem] run_string_add_if
set_option maxRecDepth 100000 in
set_option maxHeartbeats 16000000 in
theorem written_walk (l : List UInt8) (A : Option Addr) (n c : Nat) (hn : l.length = n) (hnc : n ≤ c) (hm : c ≤ 140737488351232) (cb : UInt8) (w : World) (hT : Tab w) (hr : Rd w A l) :
    Calls Tryd.prog 8 #[.slice A n c, .int .u8 (cb.toNat : Int)] w (Yes w) := by
  obtain ⟨m, HM, hm12, hm13, hmin⟩ := min_lit n 60 60 rfl
  have hctm := cut_to2 A n c m hm12 hnc
  generalize hQ : Yes w = Q
  have HQ := Lib.hid hQ
  have HT := Lib.hid hT
  have HR := Lib.hid hr
  have HN := Lib.hid hn
  clear hQ hT hr hn
  go_enter Tryd.func8, Tryd.ntmps8
  go_wp2_with fail
  refine (works_any _ HT.out).mono ?_
  rintro e w2 ⟨rfl, hb2⟩
  have B2 := Lib.hid hb2
  have HT3 := Lib.hid (show (l.take m).length = m by rw [List.length_take, HN.out]; omega)
  have R2 := Lib.hid ((HR.out.take m).below hb2)
  have T2 := Lib.hid (HT.out.below hb2)
  clear hb2 HT HR HN
  generalize l.take m = T at *
  go_wp2_with fail
  go_loopw [5, 6, 7, 8] (fun vs vc vi vk wr => ∃ k : Nat, k ≤ m ∧ vs = .string ⟨(hxs (T.take k)).toArray⟩ ∧ vc = .string ⟨(hxs (T.take k)).toArray⟩ ∧ vi = .bool ((T.take k).any fun x => x == cb) ∧ vk = .int .i64 (k : Int) ∧ Hid (Below w2.heap.size w2 wr)) (fun _ _ _ vk _ => m - (intOf vk).toNat)
  case atStart => exact ⟨0, by omega, rfl, rfl, rfl, rfl, Below.refl _ _⟩
  case round =>
    obtain ⟨k, hk, rfl, rfl, rfl, rfl, HB⟩ := hrel
    have R3 := Lib.hid (R2.out.below HB.out)
    by_cases hlt : k < m
    · have hkl : k < T.length := by rw [HT3.out]; exact hlt
      obtain ⟨ad, hA, hcell⟩ := R3.out (by omega)
      have hc1 := hcell k hkl
      subst hA
      have SK := Lib.hid (show hxs (T.take (k + 1)) = hxs (T.take k) ++ hx T[k] by rw [List.take_succ_eq_append_getElem hkl, hxs_app]; simp [hxs])
      have SA := Lib.hid (show ((T.take (k + 1)).any fun x => x == cb) = (((T.take k).any fun x => x == cb) || (T[k] == cb)) by rw [List.take_succ_eq_append_getElem hkl, List.any_append]; simp)
      have SL : (hxs (T.take k)).length ≤ 1000 := by rw [hxs_len, List.length_take, HT3.out]; omega
      have hx0 := T[k].toNat_lt
      clear hcell
      generalize T[k] = x at *
      clear hkl
      simp only [bv] at hc1
      generalize hxs (T.take k) = sk at *
      generalize ((T.take k).any fun x => x == cb) = ik at *
      obtain ⟨q, hq⟩ : ∃ q, x.toNat / 16 = q := ⟨_, rfl⟩
      obtain ⟨r, hr⟩ : ∃ q, x.toNat % 16 = q := ⟨_, rfl⟩
      have q16 : q < 16 := by omega
      have r16 : r < 16 := by omega
      have e1 : (x.toNat : Int) / 16 = (q : Int) := by omega
      have e2 := and15w x.toNat (by omega)
      rw [hr] at e2
      have d1 := dig_cut q q16
      have d2 := dig_cut r r16
      have SX := Lib.hid (show hx x = [92, 120, dgts.getD q 0, dgts.getD r 0] by rw [hx, hq, hr])
      clear hq hr
      generalize dgts.getD q 0 = y at *
      generalize dgts.getD r 0 = z at *
      have a1 := str_add [92, 120] [y] (by simp) (by simp)
      have a2 := str_add [92, 120, y] [z] (by simp) (by simp)
      obtain ⟨s1, hs1⟩ : ∃ s, s = sk ++ [92, 120, y, z] := ⟨_, rfl⟩
      have a3 := str_add sk [92, 120, y, z] (by omega) (by simp)
      rw [← hs1] at a3
      have HS1 := Lib.hid hs1
      obtain ⟨bx, hbx⟩ : ∃ b, (x == cb) = b := ⟨_, rfl⟩
      have e3 : ((x.toNat : Int) == (cb.toNat : Int)) = bx := by rw [← hbx, Bool.eq_iff_iff, beq_iff_eq, beq_iff_eq, ← UInt8.toNat_inj]; omega
      have HBX := Lib.hid hbx
      clear hs1 hbx SL
      go_wp2_with fail
      go_quiet (fail)
      have HB4 := Lib.hid (bl_drewN HB.out nq)
      clear HB
      go_wp2_with fail
      all_goals refine ⟨⟨k + 1, by omega, by rw [SK.out, SX.out, ← HS1.out], by rw [SK.out, SX.out, ← HS1.out], by rw [SA.out, HBX.out]; simp [*], by go_num, HB4⟩, by simp [intOf]; omega⟩
    · obtain rfl : k = m := by omega
      rw [List.take_of_length_le (by rw [HT3.out]; omega)]
      have hsl : (hxs T).length ≤ 240 := by rw [hxs_len, HT3.out]; omega
      have hs0 : hxs (T ++ [0]) = hxs T ++ [92, 120, 48, 48] := by rw [hxs_app]; rfl
      obtain ⟨p1, hp1⟩ : ∃ s, s = 40 :: hxs T := ⟨_, rfl⟩
      obtain ⟨p2, hp2⟩ : ∃ s, s = p1 ++ [41] := ⟨_, rfl⟩
      have a1 := str_add [40] (hxs T) (by simp) (by omega)
      rw [show [40] ++ hxs T = p1 from hp1.symm] at a1
      have hl1 : p1.length ≤ 241 := by rw [hp1, List.length_cons]; omega
      have a2 := str_add p1 [41] (by omega) (by simp)
      rw [← hp2] at a2
      have e2 : p2 = 40 :: (hxs T ++ [41]) := by rw [hp2, hp1]; rfl
      have T3 := Lib.hid (T2.out.below HB.out)
      have htk1 : tk (hxT T) T = true := by rw [tk_hxT]; simp
      have htk2 : tk (hxT (T ++ [0])) T = false := by rw [tk_hxT]; simp
      have hz1 := hxT_size T
      have hz2 := hxT_size (T ++ [0])
      rw [List.length_append, List.length_singleton, HT3.out] at hz2
      rw [HT3.out] at hz1
      have c1 := takes_known p2 T (hxT T) (by rw [e2]; exact pr_br T) (by rw [e2, List.length_cons, List.length_append, List.length_singleton]; omega) (by omega) (by rw [HT3.out]; omega)
      rw [htk1] at c1
      have a3 := str_add (hxs T) [92, 120, 48, 48] (by omega) (by simp)
      rw [← hs0] at a3
      have c2 := takes_known (hxs (T ++ [0])) T (hxT (T ++ [0])) (pr_all _) (by rw [hs0, List.length_append]; simp; omega) (by omega) (by rw [HT3.out]; omega)
      rw [htk2] at c2
      have C1 := Lib.hid c1
      have C2 := Lib.hid c2
      have SV := string_of wr A k c T HT3.out R3.out
      have L1 := Lib.hid hsl
      clear c1 c2 htk1 htk2 hz1 hz2 hs0 e2 hp1 hp2 hl1 hsl
      generalize hxs (T ++ [0]) = p3 at *
      have BW := Lib.hid (bl_trans B2.out HB.out)
      clear B2 R2 T2 HB
      obtain ⟨ib, hib⟩ : ∃ b, (T.any fun x => x == cb) = b := ⟨_, rfl⟩
      have HIB := Lib.hid hib
      rw [hib]
      clear hib
      go_wp2_with fail
      refine (C1.out _ T3.out).mono ?_
      rintro e w4 ⟨rfl, hb4⟩
      have SV4 := string_of w4 A k c T HT3.out (R3.out.below hb4)
      have T4 := Lib.hid (T3.out.below hb4)
      have R4 := Lib.hid (R3.out.below hb4)
      have BW4 := Lib.hid (bl_trans BW.out hb4)
      clear SV T3 R3 BW hb4 C1
      go_wp2_with fail
      refine (C2.out _ T4.out).mono ?_
      rintro e w5 ⟨rfl, hb5⟩
      have SV5 := string_of (w5.alloc (.cells #[.int .u8 (cb.toNat : Int)] 5)) (some ⟨w5.heap.size, 0, none⟩) 1 1 [cb] rfl (Rd.lit0 w5 [cb] (0, 0))
      have T5 := Lib.hid (T4.out.below (bl_trans hb5 (bl_alloc (Below.refl _ _) (.cells #[.int .u8 (cb.toNat : Int)] 5))))
      have BW5 := Lib.hid (bl_alloc (bl_trans BW4.out hb5) (.cells #[.int .u8 (cb.toNat : Int)] 5))
      clear SV4 T4 R4 BW4 hb5 C2 a1 a2 a3
      by_cases hk0 : k = 0
      · have hd : ((k : Int) == 0) = true := by simp [hk0]
        clear hk0
        go_wp2_with fail
        exact post_is HQ ⟨rfl, BW5.out⟩
      · have hd : ((k : Int) == 0) = false := by simp [hk0]
        have hTn : T ≠ [] := fun e => by have := HT3.out; rw [e] at this; exact hk0 this.symm
        obtain ⟨p4, hp4⟩ : ∃ s, s = 91 :: hxs T := ⟨_, rfl⟩
        obtain ⟨p5, hp5⟩ : ∃ s, s = p4 ++ [93] := ⟨_, rfl⟩
        obtain ⟨p6, hp6⟩ : ∃ s, s = 91 :: 94 :: hxs T := ⟨_, rfl⟩
        obtain ⟨p7, hp7⟩ : ∃ s, s = p6 ++ [93] := ⟨_, rfl⟩
        have hsl := L1.out
        have a4 := str_add [91] (hxs T) (by simp) (by omega)
        rw [show [91] ++ hxs T = p4 from hp4.symm] at a4
        have hl4 : p4.length ≤ 241 := by rw [hp4, List.length_cons]; omega
        have a5 := str_add p4 [93] (by omega) (by simp)
        rw [← hp5] at a5
        have a6 := str_add [91, 94] (hxs T) (by simp) (by omega)
        rw [show [91, 94] ++ hxs T = p6 from hp6.symm] at a6
        have hl6 : p6.length ≤ 242 := by rw [hp6, List.length_cons, List.length_cons]; omega
        have a7 := str_add p6 [93] (by omega) (by simp)
        rw [← hp7] at a7
        have e5 : p5 = 91 :: (hxs T ++ [93]) := by rw [hp5, hp4]; rfl
        have e7 : p7 = 91 :: 94 :: (hxs T ++ [93]) := by rw [hp7, hp6]; rfl
        have c3 := takes_known p5 [cb] (.set (hxS T)) (by rw [e5]; exact pr_yes T hTn) (by rw [hp5, List.length_append, List.length_singleton]; omega) (by simp [Rx.size]) (by simp)
        have c4 := takes_known p7 [cb] (.set (notS (hxS T))) (by rw [e7]; exact pr_no T hTn) (by rw [hp7, List.length_append, List.length_singleton]; omega) (by simp [Rx.size]) (by simp)
        rw [tk_yes, HIB.out] at c3
        rw [tk_no, HIB.out] at c4
        have C3 := Lib.hid c3
        have C4 := Lib.hid c4
        clear c3 c4 e5 e7 hp4 hp5 hp6 hp7 hl4 hl6 hsl hk0
        go_wp2_with fail
        refine (C3.out _ T5.out).mono ?_
        rintro e w6 ⟨rfl, hb6⟩
        have T6 := Lib.hid (T5.out.below hb6)
        have BW6 := Lib.hid (bl_trans BW5.out hb6)
        clear hb6 SV5 T5 BW5 C3
        go_wp2_with fail
        refine (C4.out _ T6.out).mono ?_
        rintro e w7 ⟨rfl, hb7⟩
        have BW7 := Lib.hid (bl_trans BW6.out hb7)
        clear hb7
        go_wp2_with fail
        all_goals exact post_is HQ ⟨rfl, BW7.out⟩

theorem u8_arg (n : Nat) (h : n < 256) : (Value.int .u8 (n : Int)) = .int .u8 ((UInt8.ofNat n).toNat : Int) := by
  rw [UInt8.toNat_ofNat', Nat.mod_eq_of_lt (by omega)]
theorem written_at (l : List UInt8) (A : Option Addr) (n c : Nat) (hn : l.length = n) (hnc : n ≤ c) (hm : c ≤ 140737488351232) (k : Nat) (hk : k < 256) (w : World) (hT : Tab w) (hr : Rd w A l) :
    Calls Tryd.prog 8 #[.slice A n c, .int .u8 (k : Int)] w (Yes w) := by
  rw [u8_arg k hk]
  exact written_walk l A n c hn hnc hm _ w hT hr

theorem laid_met (os : Os) : laidMet Tryd.prog laidL ((laidWorld os).forCall (fun _ _ => 0) ⟨#[], #[.slice none 0 0, .int .u8 0], []⟩).memory :=
  laidMet_of_run' 8 (by kernel_rfl) (by kernel_rfl)
theorem reads (os : Os) {H : Type} (enc : TypeId × Value → H) : ∃ places, DataW.whole enc Tryd.prog ((laidWorld os).forCall (fun _ _ => 0) ⟨#[], #[.slice none 0 0, .int .u8 0], []⟩).memory Tryd.f8.params.toList Rows.regexWrittenSpec.vars false (#[.slice none 0 0, .int .u8 0] : Array Value).toList 8 = some ([.nil, .lit (.int .u8 0)], [], places) :=
  ⟨[], by kernel_rfl⟩
set_option maxRecDepth 100000 in
theorem RegexWritten_said : Rows.RegexWrittenSaid :=
  OpenClaim.holds_of_cond 8 Tryd.f8 rfl rfl rfl rfl rfl rfl rfl ⟨rfl, rfl, rfl, rfl, rfl⟩ rfl rfl rfl rfl rfl (by kernel_rfl) Tryd.func8 (by kernel_rfl)
    (of_decide_eq_true (by kernel_rfl)) (by unfold Func.isWrapper; first | (rw [if_pos (by decide +kernel)]; kernel_rfl) | (rw [if_neg (by decide +kernel)]; exact ⟨rfl, rfl⟩))
    (fun os started H enc _ F => by
      rw [OpenClaim.pre_eq_preRow]
      obtain ⟨places, hx⟩ := reads os enc
      exact law_lifted_laid (s := Rows.regexWrittenSpec) (conds := Rows.regexWrittenRow.domain) Tryd.func8 (by kernel_rfl) rfl
        (fun H ds h => by rw [Tryd.params8] at h; match ds, h with | [_, _], _ => rfl) (by kernel_rfl) (by kernel_rfl) os started H enc F
        (witness_row_at (enc := enc) (C := Tryd.checked) false (laidWorld os) #[.slice none 0 0, .int .u8 0] rfl (by kernel_rfl) (by kernel_rfl) (by kernel_rfl)
          (OpenSpec.preRow_of_cond 8 hx (by kernel_rfl) (fun k hk => by cases hk) (by kernel_rfl) (laid_met os)))
        (fun W args ds p h hT => by
          obtain ⟨⟨base, hok⟩, hA, hl⟩ := h
          rw [Tryd.params8] at hok hA hl
          obtain ⟨v0, v1, d0, d1, p0, p1, rfl, rfl, rfl, g0, g1⟩ := trodAll_two hA
          obtain ⟨A0, n0, c0, l0, rfl, e0, a0, b0, r0⟩ := open_bytes (hok 0 35 v0 rfl rfl) g0 (hl 0 35 d0 rfl rfl)
          obtain ⟨n1, rfl, a1⟩ := open_u8 (hok 1 5 v1 rfl rfl) g1
          exact written_at l0 A0 n0 c0 e0 a0 b0 n1 a1 W hT r0))

theorem plain_params (f : FuncId) (fn : Func) (hf : Tryd.pinned.checked.prog.funcNamed "incunable/incunablelaw09.RegexWritten" = some f) (hfn : Tryd.pinned.checked.prog.funcs[f]? = some fn) :
    true = Tryd.pinned.checked.prog.looks [] ∧ ∀ (j : Nat) t, fn.params[j]? = some t → Tryd.pinned.checked.prog.wantsStandIn t = false := by
  obtain rfl : f = 8 := Option.some.inj ((show Tryd.prog.funcNamed "incunable/incunablelaw09.RegexWritten" = some 8 by kernel_rfl).symm.trans hf) |>.symm
  obtain rfl : fn = Tryd.f8 := (Option.some.inj (Tryd.func8.symm.trans hfn)).symm
  refine ⟨by kernel_rfl, fun j t ht => ?_⟩
  rw [Tryd.params8] at ht
  have hm : t ∈ [35, 5] := by simpa using Array.mem_of_getElem? ht
  have hall : ([35, 5].all fun u => !Tryd.prog.wantsStandIn u) = true := by kernel_rfl
  exact (show Tryd.prog.wantsStandIn t = false by simpa using List.all_eq_true.1 hall t hm)

/-- The card. -/
theorem RegexWrittenCard_holds : Rows.RegexWrittenCardSaid :=
  Claim7.holds_tied_plain_at .later [] _ _ _ _ RegexWritten_said (fun _ h => by cases h) (by kernel_rfl) (fun _ h => by cases h) regexWritten_row_tie rfl ⟨rfl, rfl⟩ (by kernel_rfl) rfl plain_params (by kernel_rfl)

end Go.Proofs.YteedmkokbapkgaaDoor
