/- What the statements' own helpers do (is, fails, works, number): the chapter's examples come out as it says. -/
import Derived.Test.YthoocdgaiojkmaaWalkC
import Derived.Test.YthoocdgaiojkmaaMathB
set_option linter.unusedVariables false
namespace Go.Proofs.Ythoocdgaiojkmaa
open Go.RowKit

theorem num_ok (n : Nat) (w : World) (hn : n ≤ 9007199254740991) : Calls Try.prog 12 #[.int .i64 n] w (GotBytesE w (digs n) 0) := by
  have h := num_any n w (by omega) (by omega)
  have e : numE (n : Int) = (digs n, 0) := by unfold numE; rw [if_neg (by omega), Int.toNat_natCast]
  rw [e] at h
  exact h

theorem eq_true (A A' : Option Addr) (n c n' c' : Nat) (l : List UInt8) (w : World) (hl : l.length = n) (hl' : l.length = n') (hr : Rd w A l) (hr' : Rd w A' l) (hn : n ≤ maxLen) :
    Calls Try.prog 17 #[.slice A n c, .slice A' n' c'] w (GotBool w true) := by
  have h := eq_any A A' n c n' c' l l w hl hl' hr hr' hn (by omega)
  simpa using h

/-- Bytes that a literal laid down. -/
theorem Rd.lit (w : World) (l : List UInt8) : Rd (w.alloc (.cells (l.map bv).toArray 5)) (some ⟨w.heap.size, 0, none⟩) l := fun h => by
  refine ⟨_, rfl, fun j hj => ?_⟩
  have e : (⟨w.heap.size, 0, none⟩ : Addr).add j = ⟨w.heap.size, j, none⟩ := by unfold Addr.add; split <;> simp_all
  rw [e, cell_of_row _ _ j (l.map bv).toArray 5 (0, 0) (heap_alloc_new w _)]
  simp [hj]

set_option maxHeartbeats 1000000 in
set_option maxRecDepth 20000 in
theorem is_any (n : Nat) (A : Option Addr) (m c : Nat) (w : World) (hn : n ≤ 9007199254740991) (hl : (digs n).length = m) (hr : Rd w A (digs n)) :
    Calls Try.prog 30 #[.int .i64 n, .slice A m c] w (GotBool w true) := by
  have h8 := digs_len8 hn
  have HL := Lib.hid hl
  have hm : m ≤ 8 := by omega
  clear hl
  go_enter Try.func30, Try.ntmps30
  go_wp2_with fail
  refine (num_ok n w hn).mono ?_
  rintro e w1 ⟨v1, rfl, ho1, hb1⟩
  obtain ⟨A1, n1, c1, rfl, HL1, hc1, hc1', hr1⟩ := ho1.form
  go_wp2_with fail
  refine (copy_any A m c (digs n) w1 HL.out (hr.below hb1) (by omega)).mono ?_
  rintro e w2 ⟨v2, rfl, ho2, hb2⟩
  have hsz2 := hb2.size
  go_wp2_with (at_builtin; refine wpList_append_bytes _ rfl _ _ rfl w1.heap.size _ (digs n) rfl (ho2.alloc _) _ 1 1 [9] rfl rfl (Rd.one _ _ 9 rfl) (by simp; omega) (by simp; omega) ?_)
  intro v3 w3 ho3 hg3 _
  have hb3 : Below w1.heap.size w1 w3 := bl_grown (bl_alloc hb2 _) hg3 (fun k hk => (ho2.lt k hk).1)
  obtain ⟨A3, n3, c3, rfl, HL3, hc3, hc3', hr3⟩ := ho3.form
  clear hg3 ho3
  have hn3 : n3 ≤ 9 := by have := HL3.out; simp at this; omega
  have htk := take_any A3 n3 c3 (digs n ++ [9]) w3 HL3.out hr3 hc3 hc3' (by omega)
  rw [takeN_digs [9] hn] at htk
  have HTK := Lib.hid htk
  clear htk
  go_wp2_with (go_at_call 15; refine (HTK.out).mono ?_; rintro e w4 ⟨v4, rfl, ho4, hb4⟩; obtain ⟨A4, n4, c4, rfl, HL4, hc4, hc4', hr4⟩ := ho4.form)
  have hb14 : Below w1.heap.size w1 w4 := bl_trans hb3 hb4
  refine (eq_true A1 A n1 c1 m c (digs n) w4 HL1.out HL.out (hr1.below hb14) ((hr.below hb1).below hb14) (by omega)).mono ?_
  rintro e w5 ⟨rfl, hb5⟩
  go_wp2_with fail
  refine (eq_true A4 _ n4 c4 1 1 [9] _ HL4.out rfl ((hr4.below hb5).alloc _) (Rd.lit w5 [9]) (by omega)).mono ?_
  rintro e w6 ⟨rfl, hb6⟩
  go_wp2
  go_ret
  exact ⟨rfl, bl_trans (bl_alloc (bl_trans (bl_trans hb1 hb14) hb5) _) hb6⟩

set_option maxHeartbeats 1000000 in
set_option maxRecDepth 20000 in
theorem fails_any (er : Nat) (A : Option Addr) (m c : Nat) (l : List UInt8) (w : World) (her : er = 3 ∨ er = 4) (hm8 : m ≤ 100) (hl : l.length = m) (hr : Rd w A l) (hnc : m ≤ c) (hc : c ≤ maxLen) (ht : takeN l = (0, [], er)) :
    Calls Try.prog 31 #[.int .i64 er, .slice A m c] w (GotBool w true) := by
  have htk := take_any A m c l w hl hr hnc hc (by omega)
  rw [ht] at htk
  have HTK := Lib.hid htk
  clear htk ht hl hr
  rcases her with rfl | rfl
  all_goals
    go_enter Try.func31, Try.ntmps31
    go_wp2_with (go_at_call 15; refine (HTK.out).mono ?_; rintro e w4 ⟨v4, rfl, ho4, hb4⟩; obtain ⟨A4, n4, c4, rfl, HL4, hc4, hc4', hr4⟩ := ho4.form; obtain rfl : n4 = 0 := HL4.out.symm)
    go_ret
    exact ⟨rfl, hb4⟩

end Go.Proofs.Ythoocdgaiojkmaa
