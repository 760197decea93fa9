/- The document's own numbers and sums of layer 6: contracts over the translated program. No condition but what each statement names. -/
import Derived.Test.YtncpkblgiepdpaaGreatJoG
set_option linter.unusedVariables false
set_option linter.unusedSimpArgs false
namespace Go.Proofs.YtncpkblgiepdpaaGreat
open Go.RowKit

set_option maxHeartbeats 400000 in
set_option maxRecDepth 20000 in
theorem refTake_any (s : BitVec 32) (c : UInt8) (w : World) : Calls Tryz.prog 125 #[.int .u32 (s.toNat : Int), .int .u8 (c.toNat : Int)] w (Same32 w (takeB s c)) := by
  go_enter Tryz.func125, Tryz.ntmps125
  go_wp2
  go_loop [0, 5] (fun s' i => ∃ (k : Nat) (x : BitVec 32), k ≤ 8 ∧ i = .int .i64 k ∧ s' = .int .u32 (x.toNat : Int) ∧ Hid (stpN (8 - k) x = takeB s c)) (fun _ i => 8 - (intOf i).toNat)
  case atStart => exact ⟨0, s ^^^ BitVec.ofNat 32 c.toNat, by omega, rfl, by rw [xorbyte], rfl⟩
  case round =>
    obtain ⟨k, x, hk, rfl, rfl, HX⟩ := hrel
    by_cases hlt : k < 8
    · go_wp2
      · refine ⟨⟨k + 1, stp x, by omega, by go_num, ?_, steps_more hlt HX.out⟩, by simp [intOf]; omega⟩
        rw [fell_one (by assumption)]
      · refine ⟨⟨k + 1, stp x, by omega, by go_num, ?_, steps_more hlt HX.out⟩, by simp [intOf]; omega⟩
        rw [fell_none (by assumption)]
    · obtain rfl : k = 8 := by omega
      go_wp2
      go_ret
      have e := HX.out
      exact ⟨by rw [← e]; rfl, rfl⟩

set_option maxHeartbeats 400000 in
set_option maxRecDepth 20000 in
theorem refOn_any (s : BitVec 32) (A : Option Addr) (n c : Nat) (l : List UInt8) (w : World) (hl : l.length = n) (hr : Rd w A l) (hn : n ≤ maxLen) :
    Calls Tryz.prog 77 #[.int .u32 (s.toNat : Int), .slice A n c] w (Same32 w (onE s l)) := by
  unfold maxLen at hn
  have HL := Lib.hid hl
  clear hl
  go_enter Tryz.func77, Tryz.ntmps77
  go_wp2
  go_loop [0, 5] (fun s' i => ∃ (k : Nat) (x : BitVec 32), k ≤ n ∧ i = .int .i64 k ∧ s' = .int .u32 (x.toNat : Int) ∧ Hid (takeBs (~~~ s) (l.take k) = x)) (fun _ i => n - (intOf i).toNat)
  case atStart => exact ⟨0, ~~~ s, Nat.zero_le _, rfl, by rw [not32], rfl⟩
  case round =>
    obtain ⟨k, x, hk, rfl, rfl, HX⟩ := hrel
    by_cases hlt : k < n
    · have hk' : k < l.length := by have := HL.out; omega
      obtain ⟨ad, rfl, hc⟩ := hr.cell hk'
      clear hr
      go_wp2_with (go_at_call 125; refine (refTake_any _ _ _).mono ?_; rintro e w' ⟨rfl, rfl⟩)
      exact ⟨⟨k + 1, takeB x l[k], by omega, by go_num, rfl, takeBs_more HX.out hk'⟩, by simp [intOf]; omega⟩
    · go_wp2
      go_ret
      refine ⟨?_, rfl⟩
      have h := HX.out
      rw [List.take_of_length_le (by have := HL.out; omega)] at h
      unfold onE
      rw [h, ← not32]
      rfl

set_option maxHeartbeats 400000 in
set_option maxRecDepth 20000 in
theorem refOf_any (A : Option Addr) (n c : Nat) (l : List UInt8) (w : World) (hl : l.length = n) (hr : Rd w A l) (hn : n ≤ maxLen) :
    Calls Tryz.prog 31 #[.slice A n c] w (Same32 w (ofE l)) := by
  have h := refOn_any 0#32 A n c l w hl hr hn
  have H := Lib.hid h
  clear h hl hr
  go_enter Tryz.func31, Tryz.ntmps31
  go_wp2_with fail
  refine (H.out).mono ?_
  rintro e w1 ⟨rfl, rfl⟩
  go_wp2
  go_ret
  exact ⟨rfl, rfl⟩

set_option maxHeartbeats 400000 in
set_option maxRecDepth 20000 in
theorem refSum_any (x : BitVec 32) (w : World) : Calls Tryz.prog 30 #[.int .u32 (x.toNat : Int)] w (GotBytes w (leB x)) := by
  go_enter Tryz.func30, Tryz.ntmps30
  go_wp2
  go_ret
  refine ⟨_, rfl, ?_, bl_alloc (Below.refl _ _) _⟩
  have h := Own.lit (w := w) w.heap.size (fourE x) (Nat.le_refl _) (by simp [fourE, maxLen])
  have e : ((fourE x).map bv).toArray = #[Value.int .u8 ((x.toNat : Int) % 256), Value.int .u8 ((x.toNat : Int) / 256 % 256), Value.int .u8 ((x.toNat : Int) / 65536 % 256), Value.int .u8 ((x.toNat : Int) / 16777216)] := by
    have e1 := bv_mid x 8 256 rfl
    have e2 := bv_mid x 16 65536 rfl
    have e3 := bv_top x
    unfold fourE
    simp only [List.map, ← e3, ← bv_low x]
    rw [← e1, ← e2]
    rfl
  rw [e] at h
  exact h
theorem or_be2 (a d : Nat) (ha : a < 36028797018963968) (hd : d < 256) : bits .or .i64 (wrap64 ((a : Int) * 256)) (d : Int) = ((a * 256 + d : Nat) : Int) := by
  have hc : ((a : Int) * 256) = ((a * 256 : Nat) : Int) := by simp
  rw [hc, IntWalk.wrap64_in _ ⟨by omega, by omega⟩, or_nat64 _ _ (by omega) (by omega)]
  have := Nat.two_pow_add_eq_or_of_lt (i := 8) (b := d) (by omega) a
  rw [Nat.mul_comm] at this
  rw [← this]
theorem beN_take_le (l : List UInt8) (k : Nat) : beN (l.take k) ≤ beN l := by
  have h : beN l = beN (l.take k) * 256 ^ (l.drop k).length + beN (l.drop k) := by
    conv => lhs; rw [← List.take_append_drop k l]
    unfold beN
    rw [List.foldl_append]
    exact beN_fold _ _
  have h2 : 1 ≤ 256 ^ (l.drop k).length := Nat.pos_of_ne_zero (by simp)
  have := Nat.mul_le_mul_left (beN (l.take k)) h2
  omega
set_option maxHeartbeats 400000 in
theorem told_ref (A : Option Addr) (n c : Nat) (l : List UInt8) (w : World) (hl : l.length = n) (hr : Rd w A l) (hn : n ≤ 8) (hb : beN l < 9223372036854775808) :
    Calls Tryz.prog 81 #[.slice A n c] w fun e w' => e = .returned (.int .i64 (beN l : Int)) ∧ w = w' := by
  have HBN := Lib.hid hb
  clear hb
  go_enter Tryz.func81, Tryz.ntmps81
  go_wp2
  go_loop [3, 4] (fun t i => ∃ k : Nat, k ≤ n ∧ i = .int .i64 k ∧ t = .int .i64 (beN (l.take k) : Int)) (fun _ i => n - (intOf i).toNat)
  case atStart => exact ⟨0, Nat.zero_le _, rfl, rfl⟩
  case round =>
    obtain ⟨k, hk, rfl, rfl⟩ := hrel
    have HL := Lib.hid hl
    clear hl
    by_cases hlt : k < n
    · obtain ⟨ad, rfl, hc⟩ := hr.cell (k := k) (by have := HL.out; omega)
      clear hr
      go_wp2
      have hk' : k < l.length := by have := HL.out; omega
      have h8 := l[k].toNat_lt
      have hv := beN_take_le l (k + 1)
      rw [beN_more hk'] at hv
      have hbn := HBN.out
      have hv2 : beN (l.take k) < 36028797018963968 := by omega
      refine ⟨⟨k + 1, by omega, by go_num, ?_⟩, by simp [intOf]; omega⟩
      have := or_be2 (beN (l.take k)) l[k].toNat hv2 l[k].toNat_lt
      have hwr : wrap64 (l[k].toNat : Int) = (l[k].toNat : Int) := IntWalk.wrap64_in _ ⟨by omega, by omega⟩
      rw [beN_more hk']
      simpa [hwr] using this
    · go_wp2
      go_ret
      obtain rfl : k = n := by omega
      exact ⟨by rw [List.take_of_length_le (by have := HL.out; omega)]; rfl, rfl⟩
set_option maxHeartbeats 1000000 in
set_option maxRecDepth 20000 in
theorem refNum4_any (n : Nat) (w : World) (hn : n ≤ 9223372036854775807) : Calls Tryz.prog 29 #[.int .i64 (n : Int), .int .i64 4] w (GotBytes w (beE 4 n)) := by
  go_enter Tryz.func29, Tryz.ntmps29
  go_wp2_with fail
  go_loopw [5, 6] (fun v i wr => ∃ k : Nat, k ≤ 4 ∧ i = .int .i64 ((3 : Int) - (k : Int)) ∧ Hid (Own wr w.heap.size v ((beE 4 n).take k)) ∧ Hid (Below w.heap.size w wr)) (fun _ i _ => (intOf i + 1).toNat)
  case atStart => exact ⟨0, by omega, rfl, Own.nil _ _, Below.refl _ _⟩
  case round =>
    obtain ⟨k, hk, rfl, HO, HB⟩ := hrel
    have hs := HB.out.size
    have hkk : k = 0 ∨ k = 1 ∨ k = 2 ∨ k = 3 ∨ k = 4 := by omega
    rcases hkk with rfl | rfl | rfl | rfl | rfl
    · go_wp2_with (at_builtin; refine wpList_append_bytes _ rfl _ _ rfl w.heap.size _ ((beE 4 n).take 0) rfl (HO.out.alloc _) _ 1 1 [bE n 3] rfl rfl (Rd.one _ _ _ (bE_cell n 3 16777216 rfl)) (by simp [beE_len]) (by simp; omega) ?_)
      intro v' w' ho' hg' _
      have HO' : Hid (Own w' w.heap.size v' ((beE 4 n).take (0 + 1))) := Lib.hid (by exact ho')
      have HB' := Lib.hid (bl_grown (bl_alloc HB.out _) hg' (fun q hq => (HO.out.lt q hq).1))
      clear ho' hg' HO HB
      go_wp2_with fail
      exact ⟨⟨0 + 1, by omega, by go_num, HO', HB'⟩, by simp [intOf]⟩
    · go_wp2_with (at_builtin; refine wpList_append_bytes _ rfl _ _ rfl w.heap.size _ ((beE 4 n).take 1) rfl (HO.out.alloc _) _ 1 1 [bE n 2] rfl rfl (Rd.one _ _ _ (bE_cell n 2 65536 rfl)) (by simp [beE_len]) (by simp; omega) ?_)
      intro v' w' ho' hg' _
      have HO' : Hid (Own w' w.heap.size v' ((beE 4 n).take (1 + 1))) := Lib.hid (by exact ho')
      have HB' := Lib.hid (bl_grown (bl_alloc HB.out _) hg' (fun q hq => (HO.out.lt q hq).1))
      clear ho' hg' HO HB
      go_wp2_with fail
      exact ⟨⟨1 + 1, by omega, by go_num, HO', HB'⟩, by simp [intOf]⟩
    · go_wp2_with (at_builtin; refine wpList_append_bytes _ rfl _ _ rfl w.heap.size _ ((beE 4 n).take 2) rfl (HO.out.alloc _) _ 1 1 [bE n 1] rfl rfl (Rd.one _ _ _ (bE_cell n 1 256 rfl)) (by simp [beE_len]) (by simp; omega) ?_)
      intro v' w' ho' hg' _
      have HO' : Hid (Own w' w.heap.size v' ((beE 4 n).take (2 + 1))) := Lib.hid (by exact ho')
      have HB' := Lib.hid (bl_grown (bl_alloc HB.out _) hg' (fun q hq => (HO.out.lt q hq).1))
      clear ho' hg' HO HB
      go_wp2_with fail
      exact ⟨⟨2 + 1, by omega, by go_num, HO', HB'⟩, by simp [intOf]⟩
    · go_wp2_with (at_builtin; refine wpList_append_bytes _ rfl _ _ rfl w.heap.size _ ((beE 4 n).take 3) rfl (HO.out.alloc _) _ 1 1 [bE n 0] rfl rfl (Rd.one _ _ _ (bE_cell0 n)) (by simp [beE_len]) (by simp; omega) ?_)
      intro v' w' ho' hg' _
      have HO' : Hid (Own w' w.heap.size v' ((beE 4 n).take (3 + 1))) := Lib.hid (by exact ho')
      have HB' := Lib.hid (bl_grown (bl_alloc HB.out _) hg' (fun q hq => (HO.out.lt q hq).1))
      clear ho' hg' HO HB
      go_wp2_with fail
      exact ⟨⟨3 + 1, by omega, by go_num, HO', HB'⟩, by simp [intOf]⟩
    · go_wp2_with fail
      go_ret
      exact ⟨_, rfl, HO.out, HB.out⟩
set_option maxHeartbeats 1000000 in
set_option maxRecDepth 20000 in
theorem refNum8_any (n : Nat) (w : World) (hn : n ≤ 9223372036854775807) : Calls Tryz.prog 29 #[.int .i64 (n : Int), .int .i64 8] w (GotBytes w (beE 8 n)) := by
  go_enter Tryz.func29, Tryz.ntmps29
  go_wp2_with fail
  go_loopw [5, 6] (fun v i wr => ∃ k : Nat, k ≤ 8 ∧ i = .int .i64 ((7 : Int) - (k : Int)) ∧ Hid (Own wr w.heap.size v ((beE 8 n).take k)) ∧ Hid (Below w.heap.size w wr)) (fun _ i _ => (intOf i + 1).toNat)
  case atStart => exact ⟨0, by omega, rfl, Own.nil _ _, Below.refl _ _⟩
  case round =>
    obtain ⟨k, hk, rfl, HO, HB⟩ := hrel
    have hs := HB.out.size
    have hkk : k = 0 ∨ k = 1 ∨ k = 2 ∨ k = 3 ∨ k = 4 ∨ k = 5 ∨ k = 6 ∨ k = 7 ∨ k = 8 := by omega
    rcases hkk with rfl | rfl | rfl | rfl | rfl | rfl | rfl | rfl | rfl
    · go_wp2_with (at_builtin; refine wpList_append_bytes _ rfl _ _ rfl w.heap.size _ ((beE 8 n).take 0) rfl (HO.out.alloc _) _ 1 1 [bE n 7] rfl rfl (Rd.one _ _ _ (bE_cell7 n hn)) (by simp [beE_len]) (by simp; omega) ?_)
      intro v' w' ho' hg' _
      have HO' : Hid (Own w' w.heap.size v' ((beE 8 n).take (0 + 1))) := Lib.hid (by exact ho')
      have HB' := Lib.hid (bl_grown (bl_alloc HB.out _) hg' (fun q hq => (HO.out.lt q hq).1))
      clear ho' hg' HO HB
      go_wp2_with fail
      exact ⟨⟨0 + 1, by omega, by go_num, HO', HB'⟩, by simp [intOf]⟩
    · go_wp2_with (at_builtin; refine wpList_append_bytes _ rfl _ _ rfl w.heap.size _ ((beE 8 n).take 1) rfl (HO.out.alloc _) _ 1 1 [bE n 6] rfl rfl (Rd.one _ _ _ (bE_cell n 6 281474976710656 rfl)) (by simp [beE_len]) (by simp; omega) ?_)
      intro v' w' ho' hg' _
      have HO' : Hid (Own w' w.heap.size v' ((beE 8 n).take (1 + 1))) := Lib.hid (by exact ho')
      have HB' := Lib.hid (bl_grown (bl_alloc HB.out _) hg' (fun q hq => (HO.out.lt q hq).1))
      clear ho' hg' HO HB
      go_wp2_with fail
      exact ⟨⟨1 + 1, by omega, by go_num, HO', HB'⟩, by simp [intOf]⟩
    · go_wp2_with (at_builtin; refine wpList_append_bytes _ rfl _ _ rfl w.heap.size _ ((beE 8 n).take 2) rfl (HO.out.alloc _) _ 1 1 [bE n 5] rfl rfl (Rd.one _ _ _ (bE_cell n 5 1099511627776 rfl)) (by simp [beE_len]) (by simp; omega) ?_)
      intro v' w' ho' hg' _
      have HO' : Hid (Own w' w.heap.size v' ((beE 8 n).take (2 + 1))) := Lib.hid (by exact ho')
      have HB' := Lib.hid (bl_grown (bl_alloc HB.out _) hg' (fun q hq => (HO.out.lt q hq).1))
      clear ho' hg' HO HB
      go_wp2_with fail
      exact ⟨⟨2 + 1, by omega, by go_num, HO', HB'⟩, by simp [intOf]⟩
    · go_wp2_with (at_builtin; refine wpList_append_bytes _ rfl _ _ rfl w.heap.size _ ((beE 8 n).take 3) rfl (HO.out.alloc _) _ 1 1 [bE n 4] rfl rfl (Rd.one _ _ _ (bE_cell n 4 4294967296 rfl)) (by simp [beE_len]) (by simp; omega) ?_)
      intro v' w' ho' hg' _
      have HO' : Hid (Own w' w.heap.size v' ((beE 8 n).take (3 + 1))) := Lib.hid (by exact ho')
      have HB' := Lib.hid (bl_grown (bl_alloc HB.out _) hg' (fun q hq => (HO.out.lt q hq).1))
      clear ho' hg' HO HB
      go_wp2_with fail
      exact ⟨⟨3 + 1, by omega, by go_num, HO', HB'⟩, by simp [intOf]⟩
    · go_wp2_with (at_builtin; refine wpList_append_bytes _ rfl _ _ rfl w.heap.size _ ((beE 8 n).take 4) rfl (HO.out.alloc _) _ 1 1 [bE n 3] rfl rfl (Rd.one _ _ _ (bE_cell n 3 16777216 rfl)) (by simp [beE_len]) (by simp; omega) ?_)
      intro v' w' ho' hg' _
      have HO' : Hid (Own w' w.heap.size v' ((beE 8 n).take (4 + 1))) := Lib.hid (by exact ho')
      have HB' := Lib.hid (bl_grown (bl_alloc HB.out _) hg' (fun q hq => (HO.out.lt q hq).1))
      clear ho' hg' HO HB
      go_wp2_with fail
      exact ⟨⟨4 + 1, by omega, by go_num, HO', HB'⟩, by simp [intOf]⟩
    · go_wp2_with (at_builtin; refine wpList_append_bytes _ rfl _ _ rfl w.heap.size _ ((beE 8 n).take 5) rfl (HO.out.alloc _) _ 1 1 [bE n 2] rfl rfl (Rd.one _ _ _ (bE_cell n 2 65536 rfl)) (by simp [beE_len]) (by simp; omega) ?_)
      intro v' w' ho' hg' _
      have HO' : Hid (Own w' w.heap.size v' ((beE 8 n).take (5 + 1))) := Lib.hid (by exact ho')
      have HB' := Lib.hid (bl_grown (bl_alloc HB.out _) hg' (fun q hq => (HO.out.lt q hq).1))
      clear ho' hg' HO HB
      go_wp2_with fail
      exact ⟨⟨5 + 1, by omega, by go_num, HO', HB'⟩, by simp [intOf]⟩
    · go_wp2_with (at_builtin; refine wpList_append_bytes _ rfl _ _ rfl w.heap.size _ ((beE 8 n).take 6) rfl (HO.out.alloc _) _ 1 1 [bE n 1] rfl rfl (Rd.one _ _ _ (bE_cell n 1 256 rfl)) (by simp [beE_len]) (by simp; omega) ?_)
      intro v' w' ho' hg' _
      have HO' : Hid (Own w' w.heap.size v' ((beE 8 n).take (6 + 1))) := Lib.hid (by exact ho')
      have HB' := Lib.hid (bl_grown (bl_alloc HB.out _) hg' (fun q hq => (HO.out.lt q hq).1))
      clear ho' hg' HO HB
      go_wp2_with fail
      exact ⟨⟨6 + 1, by omega, by go_num, HO', HB'⟩, by simp [intOf]⟩
    · go_wp2_with (at_builtin; refine wpList_append_bytes _ rfl _ _ rfl w.heap.size _ ((beE 8 n).take 7) rfl (HO.out.alloc _) _ 1 1 [bE n 0] rfl rfl (Rd.one _ _ _ (bE_cell0 n)) (by simp [beE_len]) (by simp; omega) ?_)
      intro v' w' ho' hg' _
      have HO' : Hid (Own w' w.heap.size v' ((beE 8 n).take (7 + 1))) := Lib.hid (by exact ho')
      have HB' := Lib.hid (bl_grown (bl_alloc HB.out _) hg' (fun q hq => (HO.out.lt q hq).1))
      clear ho' hg' HO HB
      go_wp2_with fail
      exact ⟨⟨7 + 1, by omega, by go_num, HO', HB'⟩, by simp [intOf]⟩
    · go_wp2_with fail
      go_ret
      exact ⟨_, rfl, HO.out, HB.out⟩
end Go.Proofs.YtncpkblgiepdpaaGreat
