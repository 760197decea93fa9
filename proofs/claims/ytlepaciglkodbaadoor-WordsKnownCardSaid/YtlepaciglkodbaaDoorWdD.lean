/- Words of the grammar language: remarks, gaps, and the word with which a text begins. No condition. -/
import Derived.Test.YtlepaciglkodbaaDoorWdC
set_option linter.unusedVariables false
set_option linter.unusedSimpArgs false
namespace Go.Proofs.YtlepaciglkodbaaDoor
open Go.RowKit

/-! Which place a byte has in a list. -/
def idxB : List UInt8 → UInt8 → Option Nat
  | [], _ => none
  | x :: l, b => if x = b then some 0 else (idxB l b).map (· + 1)
def idxI : Option Nat → Int
  | none => -1
  | some i => (i : Int)
theorem index_is : ∀ (l : List UInt8) (b : UInt8), Lib.indexByte l b = idxI (idxB l b)
  | [], b => rfl
  | x :: l, b => by
    rw [Lib.indexByte, index_is l b, idxB]
    by_cases h : x = b
    · subst h; simp [idxI]
    · rw [if_neg h, if_neg (by simp [h])]
      cases idxB l b with
      | none => rfl
      | some i =>
        rw [if_neg (by simp [idxI]; try omega)]
        simp [idxI]
theorem idx_lt : ∀ (l : List UInt8) (b : UInt8) (i : Nat), idxB l b = some i → i < l.length
  | [], b, i, h => by cases h
  | x :: l, b, i, h => by
    rw [idxB] at h
    split at h
    · obtain rfl := Option.some.inj h; simp
    · cases hi : idxB l b with
      | none => rw [hi] at h; cases h
      | some j =>
        rw [hi] at h
        obtain rfl := Option.some.inj h
        have := idx_lt l b j hi
        simp; omega
theorem indexByte_run (l : List UInt8) (b : UInt8) (w : World) : (callFunc 66 #[.string ⟨l.toArray⟩, .int .u8 (b.toNat : Int)]).run Tryd.prog w = .ok (.value (.int .i64 (idxI (idxB l b)))) w := by
  rw [run_callFunc_extern Tryd.func66 (by kernel_rfl) (by kernel_rfl) (by kernel_rfl) (e := Extern.BytealgIndexByte.indexByte) (by kernel_rfl), Lib.run_indexByteString]
  have e : ((b.toNat : Int)).toNat.toUInt8 = b := by simp
  rw [e, show (⟨l.toArray⟩ : ByteArray).data.toList = l from rfl, index_is]
  rfl
theorem indexByte_any (l : List UInt8) (b : UInt8) (w : World) : Calls Tryd.prog 61 #[.string ⟨l.toArray⟩, .int .u8 (b.toNat : Int)] w fun e w' => e = .returned (.int .i64 (idxI (idxB l b))) ∧ w = w' := by
  have hx := fun (W : World) => indexByte_run l b W
  go_enter Tryd.func61, Tryd.ntmps61
  go_wp2
  go_ret
  exact ⟨rfl, rfl⟩

/-- How many bytes there are ahead of the next end of a line. -/
def remN (l : List UInt8) : Nat := match idxB l 10 with
  | none => l.length
  | some i => i
theorem rem_le (l : List UInt8) : remN l ≤ l.length := by
  unfold remN
  cases h : idxB l 10 with
  | none => exact Nat.le_refl _
  | some i => have := idx_lt l 10 i h; simp; omega
theorem rem_nil : remN [] = 0 := rfl
theorem rem_cons (b : UInt8) (t : List UInt8) : remN (b :: t) = if b = 10 then 0 else remN t + 1 := by
  unfold remN
  rw [idxB]
  by_cases h : b = 10
  · rw [if_pos h, if_pos h]
  · rw [if_neg h, if_neg h]
    cases idxB t 10 <;> rfl
theorem gap_rem : ∀ l : List UInt8, gapN true l = remN l + gapN false (l.drop (remN l))
  | [] => rfl
  | b :: t => by
    rw [rem_cons]
    by_cases h : b = 10
    · subst h
      rw [if_pos rfl, List.drop_zero, gapN, gapN, if_pos (by decide)]
      rw [show (((10 : UInt8) != 10)) = false by decide]
      omega
    · have hb : (b != 10) = true := by simpa using h
      rw [if_neg h, gapN, hb, gap_rem t, List.drop_succ_cons]
      omega

set_option maxRecDepth 20000 in
theorem remark_any (l : List UInt8) (w : World) (hm : l.length ≤ maxLen) : Calls Tryd.prog 47 #[.string ⟨l.toArray⟩] w (fun e w' => e = .returned (.int .i64 (remN l : Int)) ∧ w = w') := by
  have hlen := fun ty => len_at l #[9] ty rfl
  generalize hQ : (fun (e : Ending) (w' : World) => e = .returned (.int .i64 (remN l : Int)) ∧ w = w') = Q
  have HQ := Lib.hid hQ
  clear hQ
  cases hi : idxB l 10 with
  | none =>
    have HE : Hid (remN l = l.length) := by unfold Hid remN; rw [hi]
    have hx := fun w => indexByte_any l 10 w
    rw [hi, idxI] at hx
    clear hi
    go_enter Tryd.func47, Tryd.ntmps47
    go_wp2_with fail
    refine (hx _).mono ?_
    rintro e w1 ⟨rfl, rfl⟩
    go_wp2_with fail
    exact post_is HQ ⟨by rw [HE.out]; rfl, rfl⟩
  | some i =>
    have HE : Hid (remN l = i) := by unfold Hid remN; rw [hi]
    have hx := fun w => indexByte_any l 10 w
    rw [hi, idxI] at hx
    have hlt : decide ((i : Int) < 0) = false := by simp
    clear hi
    go_enter Tryd.func47, Tryd.ntmps47
    go_wp2_with fail
    refine (hx _).mono ?_
    rintro e w1 ⟨rfl, rfl⟩
    go_wp2_with fail
    exact post_is HQ ⟨by rw [HE.out]; rfl, rfl⟩

theorem gap_end (l : List UInt8) (k : Nat) (hk : ¬ k < l.length) : gapN false (l.drop k) = 0 := by
  rw [List.drop_eq_nil_of_le (by omega)]; rfl
theorem gap_here {l : List UInt8} {k : Nat} (hk : k < l.length) : gapN false (l.drop k) =
    if spB (l.getD k 0).toNat = true then gapN false (l.drop (k + 1)) + 1 else if l.getD k 0 = 35 then remN (l.drop k) + gapN false (l.drop (k + remN (l.drop k))) else 0 := by
  have hd := drop_at l k hk
  by_cases h1 : spB (l.getD k 0).toNat = true
  · rw [if_pos h1, hd, gapN, if_pos h1]
  · rw [if_neg h1]
    by_cases h2 : l.getD k 0 = 35
    · rw [if_pos h2]
      have hr : remN (l.drop k) = remN (l.drop (k + 1)) + 1 := by rw [hd, rem_cons, if_neg (by rw [h2]; decide)]
      have ht : (l.drop k).drop (remN (l.drop (k + 1)) + 1) = (l.drop (k + 1)).drop (remN (l.drop (k + 1))) := by rw [hd, List.drop_succ_cons]
      have hs : l.drop (k + (remN (l.drop (k + 1)) + 1)) = (l.drop k).drop (remN (l.drop (k + 1)) + 1) := by rw [List.drop_drop]
      rw [hr, hs, ht, hd, gapN, if_neg h1, if_pos h2, gap_rem]
      omega
    · rw [if_neg h2, hd, gapN, if_neg h1, if_neg h2]


set_option maxRecDepth 20000 in
theorem gap_any (l : List UInt8) (w : World) (hm : l.length ≤ 140737488355328) : Calls Tryd.prog 30 #[.string ⟨l.toArray⟩] w (GotN w (gapN false l)) := by
  have hlen := fun ty => len_at l #[9] ty rfl
  generalize hQ : GotN w (gapN false l) = Q
  have HQ := Lib.hid hQ
  clear hQ
  go_enter Tryd.func30, Tryd.ntmps30
  go_wp2_with fail
  go_loopw [3] (fun v wr => ∃ k : Nat, k ≤ l.length ∧ v = .int .i64 (k : Int) ∧ wr = w ∧ Hid (gapN false l = k + gapN false (l.drop k))) (fun v _ => l.length - (intOf v).toNat)
  case atStart => exact ⟨0, Nat.zero_le _, rfl, rfl, by unfold Hid; simp⟩
  case round =>
    obtain ⟨k, hk, rfl, rfl, HK⟩ := hrel
    by_cases hlt : k < l.length
    · have hat := letter_at l k hlt (k : Int) rfl
      have hph := gap_here hlt
      have bl : decide (k < l.length) = true := by simp [hlt]
      have hrl := rem_le (l.drop k)
      rw [List.length_drop] at hrl
      have hfr := from_at l k hk (k : Int) rfl
      have hrm := fun w => remark_any (l.drop k) w (by unfold maxLen; simp; omega)
      have h35 : ∀ c : Bool, decide (l.getD k 0 = 35) = c → ((((l.getD k 0).toNat : Nat) : Int) == 35) = c := fun c hc => by
        cases c
        · exact ne_nat (c := 35) 35 rfl (by simpa using hc)
        · exact eq_nat 35 rfl (by simpa using hc)
      obtain ⟨c5, hc5⟩ : ∃ c, decide (l.getD k 0 = 35) = c := ⟨_, rfl⟩
      have e5 := h35 c5 hc5
      have HP5 : Hid (l.getD k 0 = 35 ↔ c5 = true) := by unfold Hid; rw [← hc5]; simp
      have hpos : c5 = true → 0 < remN (l.drop k) := fun h => by
        rw [drop_at l k hlt, rem_cons, if_neg (by rw [HP5.out.2 h]; decide)]
        omega
      clear h35 hc5
      have hp2 := HP5.out
      rw [show (if l.getD k 0 = 35 then remN (l.drop k) + gapN false (l.drop (k + remN (l.drop k))) else 0) = (if c5 = true then remN (l.drop k) + gapN false (l.drop (k + remN (l.drop k))) else 0) from by simp only [hp2]] at hph
      clear hp2 HP5
      unfold spB at hph
      generalize (l.getD k 0).toNat = n at *
      generalize l.drop k = lk at *
      obtain ⟨c1, h1⟩ : ∃ b, (n == 32) = b := ⟨_, rfl⟩
      obtain ⟨c2, h2⟩ : ∃ b, (n == 9) = b := ⟨_, rfl⟩
      obtain ⟨c3, h3⟩ : ∃ b, (n == 10) = b := ⟨_, rfl⟩
      obtain ⟨c4, h4⟩ : ∃ b, (n == 13) = b := ⟨_, rfl⟩
      have e1 := eqb n 32 32 rfl _ h1
      have e2 := eqb n 9 9 rfl _ h2
      have e3 := eqb n 10 10 rfl _ h3
      have e4 := eqb n 13 13 rfl _ h4
      rw [h1, h2, h3, h4] at hph
      clear h1 h2 h3 h4
      cases c1
      case true =>
        rw [if_pos (by simp)] at hph
        have HP := Lib.hid hph
        clear hph
        go_wp2_with fail
        go_roundw
        case rel => exact ⟨k + 1, by omega, by go_num, by first | rfl | trivial, by unfold Hid; rw [HK.out, HP.out]; omega⟩
        case measure => simp [intOf]; omega
      case false =>
      cases c2
      case true =>
        rw [if_pos (by simp)] at hph
        have HP := Lib.hid hph
        clear hph
        go_wp2_with fail
        go_roundw
        case rel => exact ⟨k + 1, by omega, by go_num, by first | rfl | trivial, by unfold Hid; rw [HK.out, HP.out]; omega⟩
        case measure => simp [intOf]; omega
      case false =>
      cases c3
      case true =>
        rw [if_pos (by simp)] at hph
        have HP := Lib.hid hph
        clear hph
        go_wp2_with fail
        go_roundw
        case rel => exact ⟨k + 1, by omega, by go_num, by first | rfl | trivial, by unfold Hid; rw [HK.out, HP.out]; omega⟩
        case measure => simp [intOf]; omega
      case false =>
      cases c4
      case true =>
        rw [if_pos (by simp)] at hph
        have HP := Lib.hid hph
        clear hph
        go_wp2_with fail
        go_roundw
        case rel => exact ⟨k + 1, by omega, by go_num, by first | rfl | trivial, by unfold Hid; rw [HK.out, HP.out]; omega⟩
        case measure => simp [intOf]; omega
      case false =>
      rw [if_neg (by simp)] at hph
      cases c5
      case true =>
        rw [if_pos rfl] at hph
        generalize remN lk = m at *
        have HP := Lib.hid hph
        have hwr : wrap64 ((k : Int) + (m : Int)) = ((k + m : Nat) : Int) := by rw [IntWalk.wrap64_in _ ⟨by omega, by omega⟩]; simp
        have HM := Lib.hid (hpos rfl)
        clear hph hpos
        go_wp2_with fail
        refine (hrm _).mono ?_
        rintro e w1 ⟨rfl, rfl⟩
        go_wp2_with fail
        go_roundw
        case rel => exact ⟨k + m, by omega, by first | rfl | go_num, by first | rfl | trivial, by unfold Hid; rw [HK.out, HP.out]; omega⟩
        case measure => have := HM.out; simp [intOf]; omega
      case false =>
        rw [if_neg (by simp)] at hph
        have HP := Lib.hid hph
        clear hph
        go_wp2_with fail
        exact post_is HQ ⟨by rw [HK.out, HP.out]; rfl, Below.refl _ _⟩
    · have bl : decide (k < l.length) = false := by simp; omega
      have HP := Lib.hid (gap_end l k hlt)
      clear hlt
      go_wp2_with fail
      exact post_is HQ ⟨by rw [HK.out, HP.out]; rfl, Below.refl _ _⟩


/-- Two numbers. -/
def GotP (w : World) (x y : Nat) (e : Ending) (w' : World) : Prop := e = .returned (.tuple #[.int .i64 (x : Int), .int .i64 (y : Int)]) ∧ Below w.heap.size w w'
theorem head_at {l : List UInt8} {n : Nat} (hn : n < l.length) (c : UInt8) : (l.drop n).head? = some c ↔ l.getD n 0 = c := by
  rw [drop_at l n hn]
  simp
theorem head_out {l : List UInt8} {n : Nat} (hn : ¬ n < l.length) (c : UInt8) : ¬ (l.drop n).head? = some c := by
  rw [List.drop_eq_nil_of_le (by omega)]
  simp
set_option maxRecDepth 20000 in
theorem closed_any (b : UInt8) (t : List UInt8) (k n : Nat) (hn : n ≤ t.length) (w : World) (hm : t.length ≤ 140737488355328) : Calls Tryd.prog 48 #[.string ⟨(b :: t).toArray⟩, .int .i64 (k : Int), .int .i64 (n : Int)] w
    (if (t.drop n).head? = some b then GotP w k (n + 2) else GotP w 0 0) := by
  have hlen := fun ty => len_at (b :: t) #[9] ty rfl
  have hi0 := letter_at (b :: t) 0 (by simp) 0 rfl
  have hg : (b :: t).getD 0 0 = b := rfl
  rw [hg] at hi0
  have hll : (b :: t).length = t.length + 1 := rfl
  rw [hll] at hlen
  clear hg
  generalize hQ : (if (t.drop n).head? = some b then GotP w k (n + 2) else GotP w 0 0) = Q
  have HQ := Lib.hid hQ
  clear hQ
  by_cases hlt : n < t.length
  · have hi1 := letter_at (b :: t) (n + 1) (by simp; omega) ((n : Int) + 1) (by simp)
    rw [show (b :: t).getD (n + 1) 0 = t.getD n 0 from rfl] at hi1
    have b1 : ((n : Int) + 1 == ((t.length + 1 : Nat) : Int)) = false := by simp; omega
    have b1' : ((n : Int) + 1 == (t.length : Int) + 1) = false := by simp; omega
    have hh := head_at hlt b
    by_cases hb : t.getD n 0 = b
    · have b2 := bne_of (eq_nat (b.toNat : Int) rfl hb)
      have HB : Hid ((t.drop n).head? = some b) := hh.2 hb
      clear hb hh hlt
      generalize (t.getD n 0).toNat = x at *
      generalize b.toNat = y at *
      generalize (b :: t) = l at *
      generalize t.length = m at *
      go_enter Tryd.func48, Tryd.ntmps48
      go_wp2_with (go_quiet (fail))
      refine post_is HQ ?_
      rw [if_pos HB.out]
      exact ⟨rfl, bl_drewN (Below.refl _ _) _⟩
    · have b2 := bne_of (ne_nat (c := b) (b.toNat : Int) rfl hb)
      have HB : Hid (¬ (t.drop n).head? = some b) := fun h => hb (hh.1 h)
      clear hb hh hlt
      generalize (t.getD n 0).toNat = x at *
      generalize b.toNat = y at *
      generalize (b :: t) = l at *
      generalize t.length = m at *
      go_enter Tryd.func48, Tryd.ntmps48
      go_wp2_with (go_quiet (fail))
      refine post_is HQ ?_
      rw [if_neg HB.out]
      exact ⟨rfl, bl_drewN (Below.refl _ _) _⟩
  · have b1 : ((n : Int) + 1 == ((t.length + 1 : Nat) : Int)) = true := by simp; omega
    have b1' : ((n : Int) + 1 == (t.length : Int) + 1) = true := by simp; omega
    have HB : Hid (¬ (t.drop n).head? = some b) := head_out hlt b
    clear hlt
    generalize b.toNat = y at *
    generalize (b :: t) = l at *
    generalize t.length = m at *
    go_enter Tryd.func48, Tryd.ntmps48
    go_wp2_with (go_quiet (fail))
    refine post_is HQ ?_
    rw [if_neg HB.out]
    exact ⟨rfl, bl_drewN (Below.refl _ _) _⟩


end Go.Proofs.YtlepaciglkodbaaDoor
