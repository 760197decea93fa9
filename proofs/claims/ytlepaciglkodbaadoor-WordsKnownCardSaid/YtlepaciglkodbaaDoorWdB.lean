/- Words of the grammar language: the program's readers of texts. No condition. -/
import Derived.Test.YtlepaciglkodbaaDoorWdA
set_option linter.unusedVariables false
set_option linter.unusedSimpArgs false
namespace Go.Proofs.YtlepaciglkodbaaDoor
open Go.RowKit

theorem letter_at (l : List UInt8) (j : Nat) (hj : j < l.length) (z : Int) (hz : z = (j : Int)) (W : World) : (Instr.index 9 (.string ⟨l.toArray⟩) (.int .i64 z)).run Tryd.prog W = .ok (.int .u8 ((l.getD j 0).toNat : Int)) W := by
  subst hz
  have hs : (⟨l.toArray⟩ : ByteArray).size = l.length := by simp [ByteArray.size]
  rw [run_index_string W 9 _ .i64 j Tryd.underlying9, dif_pos ⟨by omega, by rw [hs]; omega⟩]
  have e : (⟨l.toArray⟩ : ByteArray)[(j : Int).toNat]'(by rw [hs]; simpa using hj) = l.getD j 0 := by
    rw [List.getD_eq_getElem?_getD, List.getElem?_eq_getElem hj]
    rfl
  rw [e]
theorem len_at (l : List UInt8) (ts : Array TypeId) (ty : TypeId) (hts : ts = #[9]) (W : World) : (Builtin.len_ ts ty #[.string ⟨l.toArray⟩]).run Tryd.prog W = .ok (.int .i64 (l.length : Int)) W := by
  subst hts
  rw [run_len_string W 9 ty _ Tryd.underlying9]
  simp [ByteArray.size, goInt]
theorem str_drop (l : List UInt8) (k : Nat) (hk : k ≤ l.length) : (⟨l.toArray⟩ : ByteArray).extract k (⟨l.toArray⟩ : ByteArray).size = ⟨(l.drop k).toArray⟩ := by
  apply ByteArray.ext
  simp [ByteArray.size]
  rw [List.take_of_length_le (by simp)]
theorem str_take (l : List UInt8) (k : Nat) : (⟨l.toArray⟩ : ByteArray).extract 0 k = ⟨(l.take k).toArray⟩ := by
  apply ByteArray.ext
  simp
theorem from_at (l : List UInt8) (k : Nat) (hk : k ≤ l.length) (z : Int) (hz : z = (k : Int)) (W : World) : (Instr.slice 9 (.string ⟨l.toArray⟩) (some (.int .i64 z)) none none).run Tryd.prog W = .ok (.string ⟨(l.drop k).toArray⟩) W := by
  subst hz
  rw [run_slice_string_l W 9 _ Tryd.underlying9 .i64 k (by omega) (by simp [ByteArray.size]; omega), Int.toNat_natCast, str_drop l k hk]
theorem to_at (l : List UInt8) (k : Nat) (hk : k ≤ l.length) (z : Int) (hz : z = (k : Int)) (W : World) : (Instr.slice 9 (.string ⟨l.toArray⟩) none (some (.int .i64 z)) none).run Tryd.prog W = .ok (.string ⟨(l.take k).toArray⟩) W := by
  subst hz
  rw [run_slice_string_h W 9 _ Tryd.underlying9 .i64 k (by omega) (by simp [ByteArray.size]; omega), Int.toNat_natCast, str_take l k]

theorem iter_below (w : World) (s : ByteArray) (p : Nat) : Below w.heap.size w (w.iter s p) := bl_alloc (Below.refl _ _) _
theorem size_str (l : List UInt8) : (⟨l.toArray⟩ : ByteArray).size = l.length := by simp [ByteArray.size]

theorem lt_small {n : Nat} (h : 128 ≤ n) : ltB n = false := by
  unfold ltB smB cpB dgB
  simp
  omega
theorem pt_small {n : Nat} (h : 128 ≤ n) : ptB n = false := by
  unfold ptB smB dgB
  simp
  omega

theorem drop_at (l : List UInt8) (k : Nat) (hk : k < l.length) : l.drop k = l.getD k 0 :: l.drop (k + 1) := by
  rw [List.drop_eq_getElem_cons hk, List.getD_eq_getElem?_getD, List.getElem?_eq_getElem hk]
  rfl
theorem run_yes {p : Nat → Bool} {l : List UInt8} {k : Nat} (hk : k < l.length) (h : p (l.getD k 0).toNat = true) : runN p (l.drop k) = runN p (l.drop (k + 1)) + 1 := by
  rw [drop_at l k hk, runN, if_pos h]
theorem run_no {p : Nat → Bool} {l : List UInt8} {k : Nat} (hk : k < l.length) (h : p (l.getD k 0).toNat = false) : runN p (l.drop k) = 0 := by
  rw [drop_at l k hk, runN, if_neg (by rw [h]; simp)]
theorem next_low (l : List UInt8) (k : Nat) (hk : k < l.length) (ha : (l.getD k 0).toNat < 128) (w : World) (ty : TypeId) :
    (Instr.next (.pointer (some ⟨w.heap.size, 0, none⟩)) true ty).run Tryd.prog (w.iter ⟨l.toArray⟩ k) = .ok (.tuple #[.bool true, .int .i64 k, .int .i32 ((l.getD k 0).toNat : Int)]) (w.iter ⟨l.toArray⟩ (k + 1)) := by
  have e : (⟨l.toArray⟩ : ByteArray)[k]'(by rw [size_str]; exact hk) = l.getD k 0 := by
    rw [List.getD_eq_getElem?_getD, List.getElem?_eq_getElem hk]
    rfl
  rw [← e] at ha ⊢
  exact run_next_ascii w ⟨l.toArray⟩ k ty (by rw [size_str]; exact hk) ha
theorem next_high (l : List UInt8) (k : Nat) (hk : k < l.length) (ha : ¬ (l.getD k 0).toNat < 128) (w : World) : ∃ (r : Nat) (p : Nat), 128 ≤ r ∧ ∀ ty : TypeId,
    (Instr.next (.pointer (some ⟨w.heap.size, 0, none⟩)) true ty).run Tryd.prog (w.iter ⟨l.toArray⟩ k) = .ok (.tuple #[.bool true, .int .i64 k, .int .i32 (r : Int)]) (w.iter ⟨l.toArray⟩ p) := by
  have e : (⟨l.toArray⟩ : ByteArray)[k]'(by rw [size_str]; exact hk) = l.getD k 0 := by
    rw [List.getD_eq_getElem?_getD, List.getElem?_eq_getElem hk]
    rfl
  rw [← e] at ha
  have hd := decode_high ⟨l.toArray⟩ k (by rw [size_str]; exact hk) (by omega)
  exact ⟨_, _, hd.1, fun ty => run_next_any w ⟨l.toArray⟩ k ty (by rw [size_str]; exact hk)⟩

set_option maxRecDepth 20000 in
theorem alike_pt (l : List UInt8) (w : World) (hm : l.length ≤ maxLen) : Calls Tryd.prog 51 #[.string ⟨l.toArray⟩, .func (.func 52) #[] #[]] w (GotN w (runN ptB l)) := by
  have hlen := fun ty => len_at l #[9] ty rfl
  generalize hQ : GotN w (runN ptB l) = Q
  have HQ := Lib.hid hQ
  clear hQ
  go_enter Tryd.func51, Tryd.ntmps51
  go_wp2_with fail
  go_loopw [] (fun wr => ∃ k : Nat, wr = w.iter ⟨l.toArray⟩ k ∧ k ≤ l.length ∧ Hid (runN ptB l = k + runN ptB (l.drop k))) (fun wr => l.length - wr.iterPos w.heap.size)
  case atStart => exact ⟨0, rfl, Nat.zero_le _, by unfold Hid; simp⟩
  case round =>
    obtain ⟨k, rfl, hk, HK⟩ := hrel
    by_cases hlt : k < l.length
    · by_cases ha : (l.getD k 0).toNat < 128
      · have hnx := next_low l k hlt ha w
        cases hp : ptB (l.getD k 0).toNat with
        | true =>
          have HR := Lib.hid (run_yes hlt hp)
          have HP := Lib.hid hp
          clear hp ha
          generalize (l.getD k 0).toNat = c at *
          go_wp2_with fail
          refine (ptis_any c _).mono ?_
          rw [HP.out]
          rintro e w1 ⟨rfl, rfl⟩
          go_wp2_with fail
          go_roundw
          case rel => exact ⟨k + 1, rfl, by omega, by unfold Hid; rw [HK.out, HR.out]; omega⟩
          case measure => simp; omega
        | false =>
          have HR := Lib.hid (run_no hlt hp)
          have HP := Lib.hid hp
          clear hp ha
          generalize (l.getD k 0).toNat = c at *
          go_wp2_with fail
          refine (ptis_any c _).mono ?_
          rw [HP.out]
          rintro e w1 ⟨rfl, rfl⟩
          go_wp2_with fail
          exact post_is HQ ⟨by rw [HK.out, HR.out]; rfl, iter_below _ _ _⟩
      · obtain ⟨c, q, hc, hnx⟩ := next_high l k hlt ha w
        have HR := Lib.hid (run_no (p := ptB) hlt (pt_small (by omega)))
        have HP := Lib.hid (pt_small hc)
        clear ha hc
        go_wp2_with fail
        refine (ptis_any c _).mono ?_
        rw [HP.out]
        rintro e w1 ⟨rfl, rfl⟩
        go_wp2_with fail
        exact post_is HQ ⟨by rw [HK.out, HR.out]; rfl, iter_below _ _ _⟩
    · have hnx := fun ty => run_next_end (P := Tryd.prog) w ⟨l.toArray⟩ k ty (by rw [size_str]; exact hlt)
      have hkl : k = l.length := by omega
      have HKL := Lib.hid hkl
      clear hkl
      go_wp2_with fail
      exact post_is HQ ⟨by rw [HK.out, HKL.out, List.drop_length]; rfl, iter_below _ _ _⟩

set_option maxRecDepth 20000 in
theorem alike_lt (l : List UInt8) (w : World) (hm : l.length ≤ maxLen) : Calls Tryd.prog 51 #[.string ⟨l.toArray⟩, .func (.func 62) #[] #[]] w (GotN w (runN ltB l)) := by
  have hlen := fun ty => len_at l #[9] ty rfl
  generalize hQ : GotN w (runN ltB l) = Q
  have HQ := Lib.hid hQ
  clear hQ
  go_enter Tryd.func51, Tryd.ntmps51
  go_wp2_with fail
  go_loopw [] (fun wr => ∃ k : Nat, wr = w.iter ⟨l.toArray⟩ k ∧ k ≤ l.length ∧ Hid (runN ltB l = k + runN ltB (l.drop k))) (fun wr => l.length - wr.iterPos w.heap.size)
  case atStart => exact ⟨0, rfl, Nat.zero_le _, by unfold Hid; simp⟩
  case round =>
    obtain ⟨k, rfl, hk, HK⟩ := hrel
    by_cases hlt : k < l.length
    · by_cases ha : (l.getD k 0).toNat < 128
      · have hnx := next_low l k hlt ha w
        cases hp : ltB (l.getD k 0).toNat with
        | true =>
          have HR := Lib.hid (run_yes hlt hp)
          have HP := Lib.hid hp
          clear hp ha
          generalize (l.getD k 0).toNat = c at *
          go_wp2_with fail
          refine (ltis_any c _).mono ?_
          rw [HP.out]
          rintro e w1 ⟨rfl, rfl⟩
          go_wp2_with fail
          go_roundw
          case rel => exact ⟨k + 1, rfl, by omega, by unfold Hid; rw [HK.out, HR.out]; omega⟩
          case measure => simp; omega
        | false =>
          have HR := Lib.hid (run_no hlt hp)
          have HP := Lib.hid hp
          clear hp ha
          generalize (l.getD k 0).toNat = c at *
          go_wp2_with fail
          refine (ltis_any c _).mono ?_
          rw [HP.out]
          rintro e w1 ⟨rfl, rfl⟩
          go_wp2_with fail
          exact post_is HQ ⟨by rw [HK.out, HR.out]; rfl, iter_below _ _ _⟩
      · obtain ⟨c, q, hc, hnx⟩ := next_high l k hlt ha w
        have HR := Lib.hid (run_no (p := ltB) hlt (lt_small (by omega)))
        have HP := Lib.hid (lt_small hc)
        clear ha hc
        go_wp2_with fail
        refine (ltis_any c _).mono ?_
        rw [HP.out]
        rintro e w1 ⟨rfl, rfl⟩
        go_wp2_with fail
        exact post_is HQ ⟨by rw [HK.out, HR.out]; rfl, iter_below _ _ _⟩
    · have hnx := fun ty => run_next_end (P := Tryd.prog) w ⟨l.toArray⟩ k ty (by rw [size_str]; exact hlt)
      have hkl : k = l.length := by omega
      have HKL := Lib.hid hkl
      clear hkl
      go_wp2_with fail
      exact post_is HQ ⟨by rw [HK.out, HKL.out, List.drop_length]; rfl, iter_below _ _ _⟩

set_option maxRecDepth 20000 in
theorem path_any (l : List UInt8) (w : World) (hm : l.length ≤ maxLen) : Calls Tryd.prog 39 #[.string ⟨l.toArray⟩] w (GotN w (runN ptB l)) := by
  generalize hQ : GotN w (runN ptB l) = Q
  have HQ := Lib.hid hQ
  clear hQ
  go_enter Tryd.func39, Tryd.ntmps39
  go_wp2_with fail
  refine (alike_pt l _ hm).mono ?_
  rintro e w1 ⟨rfl, hb⟩
  go_wp2_with fail
  exact post_is HQ ⟨rfl, hb⟩

end Go.Proofs.YtlepaciglkodbaaDoor
