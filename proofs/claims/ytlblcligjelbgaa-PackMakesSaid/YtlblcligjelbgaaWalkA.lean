/- What the program's package varnum does, function by function (digits, extent, value, head, Num, TakeNum, Text, TakeText, Join), and what the statements' helpers do: contracts over the translated program. -/
import Derived.Test.YtlblcligjelbgaaMath
import Derived.LoopTactic
import Derived.Deep.QuietTactic
import Derived.BigQuiet
import Derived.Outline
import Derived.Lib.Hide
import Derived.WalkSpells
set_option linter.unusedVariables false
namespace Go.Proofs.Ytlblcligjelbgaa
open Go.RowKit

def GotBytes (w : World) (l : List UInt8) (e : Ending) (w' : World) : Prop := ∃ v, e = .returned v ∧ Own w' w.heap.size v l ∧ Below w.heap.size w w'
def GotBool (w : World) (b : Bool) (e : Ending) (w' : World) : Prop := e = .returned (.bool b) ∧ Below w.heap.size w w'

/-- One byte, in the block that an append's argument is. -/
theorem Rd.one (w : World) (v : Value) (b : UInt8) (h : v = bv b) : Rd (w.alloc (.cells #[v] 5)) (some ⟨w.heap.size, 0, none⟩) [b] := fun _ => by
  refine ⟨_, rfl, fun j hj => ?_⟩
  obtain rfl : j = 0 := by simp at hj; omega
  subst h
  simp [Addr.add]

/- The statements' helpers -/

set_option maxHeartbeats 400000 in
set_option maxRecDepth 20000 in
theorem copy_any (A : Option Addr) (n c : Nat) (l : List UInt8) (w : World) (hl : l.length = n) (hr : Rd w A l) (hn : n ≤ 200000000000000) :
    Calls Try.prog 20 #[.slice A n c] w (GotBytes w l) := by
  go_enter Try.func20, Try.ntmps20
  go_wp2_with (at_builtin; refine wpList_append_bytes _ rfl _ _ rfl w.heap.size _ [] rfl (Own.nil _ _) A n c l rfl hl hr (by simp; omega) (Nat.le_refl _) ?_)
  intro v' w' ho hg _
  go_wp2
  go_ret
  exact ⟨_, rfl, by simpa using ho, bl_grown (Below.refl _ _) hg (by simp [Value.ownBlock])⟩

set_option maxHeartbeats 400000 in
set_option maxRecDepth 20000 in
theorem eq_any (A A' : Option Addr) (n c n' c' : Nat) (l l' : List UInt8) (w : World) (hl : l.length = n) (hl' : l'.length = n') (hr : Rd w A l) (hr' : Rd w A' l') (hn : n ≤ maxLen) (hn' : n' ≤ maxLen) :
    Calls Try.prog 16 #[.slice A n c, .slice A' n' c'] w (GotBool w (decide (l = l'))) := by
  unfold maxLen at hn hn'
  by_cases hne : n = n'
  · subst hne
    have hb : ((n : Int) != (n : Int)) = false := by simp
    go_enter Try.func16, Try.ntmps16
    go_wp2
    go_loopw [5] (fun i wr => ∃ k : Nat, k ≤ n ∧ i = .int .i64 k ∧ l.take k = l'.take k ∧ Below w.heap.size w wr) (fun i _ => n - (intOf i).toNat)
    case atStart => exact ⟨0, Nat.zero_le _, rfl, by simp, Below.refl _ _⟩
    case round =>
      obtain ⟨k, hk, rfl, hp, hbl⟩ := hrel
      have HP := Lib.hid hp
      have HL := Lib.hid hl
      have HL' := Lib.hid hl'
      clear hp hl hl'
      by_cases hlt : k < n
      · have h1 : k < l.length := by have := HL.out; omega
        have h2 : k < l'.length := by have := HL'.out; omega
        obtain ⟨ad, rfl, hc⟩ := (hr.below hbl).cell h1
        obtain ⟨ad', rfl, hc'⟩ := (hr'.below hbl).cell h2
        clear hr hr'
        go_wp2
        by_cases hx : l[k] = l'[k]
        · have hb : ((l[k].toNat : Int) != (l'[k].toNat : Int)) = false := by simp [hx]
          have HX := Lib.hid hx
          clear hx
          go_quiet (fail)
          go_wp2
          exact ⟨⟨k + 1, by omega, by go_num, take_more HP.out h1 h2 HX.out, bl_drewN hbl _⟩, by simp [intOf]; omega⟩
        · have hb : ((l[k].toNat : Int) != (l'[k].toNat : Int)) = true := by
            simp only [bne_iff_ne, ne_eq]
            intro h
            exact hx (UInt8.toNat_inj.1 (by omega))
          have HX := Lib.hid hx
          clear hx
          go_quiet (fail)
          go_wp2
          go_ret
          refine ⟨?_, bl_drewN hbl _⟩
          have : l ≠ l' := fun h => HX.out (by subst h; rfl)
          simp [this]
      · go_wp2
        go_ret
        refine ⟨?_, hbl⟩
        have h := HP.out
        rw [List.take_of_length_le (by have := HL.out; omega), List.take_of_length_le (by have := HL'.out; omega)] at h
        simp [h]
  · have hb : ((n : Int) != (n' : Int)) = true := by simp; omega
    have HN := Lib.hid hne
    clear hne
    go_enter Try.func16, Try.ntmps16
    go_wp2
    go_ret
    refine ⟨?_, Below.refl _ _⟩
    have : l ≠ l' := fun h => HN.out (by subst h; omega)
    simp [this]

set_option maxHeartbeats 400000 in
set_option maxRecDepth 20000 in
theorem clone_any (A : Option Addr) (n c : Nat) (l : List UInt8) (w : World) (hl : l.length = n) (hr : Rd w A l) (hn : n ≤ 200000000000000) :
    Calls Try.prog 36 #[.slice A n c] w (GotBytes w l) := by
  rcases A with _ | ad
  · have h0 : l = [] := by
      rcases l with _ | ⟨x, r⟩
      · rfl
      · obtain ⟨ad, h, _⟩ := hr (by simp)
        cases h
    subst h0
    clear hr
    have he := fun (W : World) => Lib.run_eql_slice_nil (P := Try.prog) W 24 5 none n c 0 0 Try.underlying24
    go_enter Try.func36, Try.ntmps36
    go_wp2
    go_ret
    exact ⟨_, rfl, Own.nil _ _, Below.refl _ _⟩
  · have he := fun (W : World) => Lib.run_eql_slice_nil (P := Try.prog) W 24 5 (some ad) n c 0 0 Try.underlying24
    go_enter Try.func36, Try.ntmps36
    go_wp2_with (at_builtin; refine wpList_append_bytes _ rfl _ _ rfl w.heap.size _ [] rfl (Own.lit w.heap.size [] (Nat.le_refl _) (by simp)) (some ad) n c l rfl hl (hr.alloc _) (by simp; omega) (by simp) ?_)
    intro v' w' ho hg _
    go_wp2
    go_ret
    exact ⟨_, rfl, by simpa using ho, bl_grown (bl_alloc (Below.refl _ _) _) hg (by simp [Value.ownBlock])⟩

/- Package varnum -/

set_option maxHeartbeats 400000 in
set_option maxRecDepth 20000 in
theorem digits_any (n : Nat) (w : World) (hn : n ≤ 9007199254740991) : Calls Try.prog 51 #[.int .i64 n] w (GotBytes w (digs n)) := by
  obtain ⟨i0, hi, hz0, hz1, hz2⟩ := info_parts info_u8
  have hd8 : (digs n).length ≤ 8 := by
    rcases digs_len_le 8 n (by omega) with h | h
    · exact h
    · omega
  go_enter Try.func51, Try.ntmps51
  go_wp2_with (at_make; refine wpList_make_own _ rfl _ _ 24 rfl w.heap.size 5 i0 (.int .u8 0) 1 Try.underlying24 hi hz0 hz1 _ _ _ 8 rfl rfl rfl (by rw [hz2]; omega) (by simp [maxLen]) (Nat.le_refl _) ?_)
  intro w1 ho hg
  go_wp2
  have hb1 : Below w.heap.size w w1 := bl_grown (Below.refl _ _) hg (by simp)
  go_loopw [0, 3] (fun t v wr => ∃ (m : Nat) (acc : List UInt8), m ≤ 9007199254740991 ∧ t = .int .i64 m ∧ digs n = acc ++ digs m ∧ Own wr w.heap.size v acc ∧ Below w.heap.size w wr) (fun t _ _ => (intOf t).toNat)
  case atStart => exact ⟨n, [], hn, rfl, rfl, ho, hb1⟩
  case round =>
    clear ho hg hb1
    obtain ⟨m, acc, hm, rfl, he, hown, hbl⟩ := hrel
    have hacc : acc.length ≤ 8 := by rw [he] at hd8; simp at hd8; omega
    have HE := Lib.hid he
    clear he
    have hsz := hbl.size
    by_cases hlt : 128 ≤ m
    · go_wp2_with (at_builtin; refine wpList_append_bytes _ rfl _ _ rfl w.heap.size _ acc rfl (hown.alloc _) _ 1 1 [dig1 m] rfl rfl (Rd.one _ _ _ (bv_dig1 m)) (by simp; omega) (by simp; omega) ?_)
      intro v' w' ho' hg' _
      go_wp2
      refine ⟨⟨m / 128, acc ++ [dig1 m], by omega, by go_num, ?_, ho', ?_⟩, by simp [intOf]; omega⟩
      · rw [HE.out, digs_big hlt]; simp
      · exact bl_grown (bl_alloc hbl _) hg' (fun k hk => (hown.lt k hk).1)
    · go_wp2_with (at_builtin; refine wpList_append_bytes _ rfl _ _ rfl w.heap.size _ acc rfl (hown.alloc _) _ 1 1 [dig0 m] rfl rfl (Rd.one _ _ _ (bv_dig0 (by omega))) (by simp; omega) (by simp; omega) ?_)
      intro v' w' ho' hg' _
      go_wp2
      go_ret
      refine ⟨_, rfl, ?_, bl_grown (bl_alloc hbl _) hg' (fun k hk => (hown.lt k hk).1)⟩
      rw [HE.out, digs_small (by omega)]
      exact ho'

end Go.Proofs.Ytlblcligjelbgaa
