/- Sections in memory; allRise, Find, written. -/
import Derived.Test.YtlblcligjelbgaaWalkI
import Derived.Test.YtlblcligjelbgaaPackMath
import Derived.Deep.RegionLaw
import Derived.Deep.RegionLawGrows
set_option linter.unusedVariables false
namespace Go.Proofs.Ytlblcligjelbgaa
open Go.RowKit

/-- A slice of sections, in memory. -/
def RdS (w : World) (A : Option Addr) (ss : List Sec) : Prop :=
  0 < ss.length → ∃ ad, A = some ad ∧ ∀ j (h : j < ss.length), w.cell? (ad.add (j * 2)) = some (.int .i64 ss[j].1) ∧
    ∃ Aj cj, w.cell? ((ad.add (j * 2)).add 1) = some (.slice Aj ss[j].2.length cj) ∧ ss[j].2.length ≤ cj ∧ cj ≤ maxLen ∧ Rd w Aj ss[j].2

theorem RdS.at {w : World} {A : Option Addr} {ss : List Sec} (h : RdS w A ss) {k : Nat} (hk : k < ss.length) :
    ∃ ad Ak n c, A = some ad ∧ w.cell? (ad.add (k * 2)) = some (.int .i64 ss[k].1) ∧ w.cell? ⟨(ad.add (k * 2)).block, (ad.add (k * 2)).off + 1, none⟩ = some (.slice Ak n c) ∧ Hid (ss[k].2.length = n) ∧ n ≤ c ∧ c ≤ maxLen ∧ Rd w Ak ss[k].2 := by
  obtain ⟨ad, e, hc⟩ := h (by omega)
  obtain ⟨h1, Ak, ck, h2, h3, h4, h5⟩ := hc k hk
  exact ⟨ad, Ak, _, ck, e, h1, h2, rfl, h3, h4, h5⟩
theorem RdS.below {w w' : World} {A : Option Addr} {ss : List Sec} (h : RdS w A ss) (hb : Below w.heap.size w w') : RdS w' A ss := fun hl => by
  obtain ⟨ad, e, hc⟩ := h hl
  refine ⟨ad, e, fun j hj => ?_⟩
  obtain ⟨h1, Aj, cj, h2, h3, h4, h5⟩ := hc j hj
  exact ⟨(hb.cell (World.block_lt_of_cell? w _ h1)).trans h1, Aj, cj, (hb.cell (World.block_lt_of_cell? w _ h2)).trans h2, h3, h4, h5.below hb⟩

/-- Tags that an int can be. -/
def TagsIn (ss : List Sec) : Prop := ∀ s ∈ ss, -9223372036854775808 ≤ s.1 ∧ s.1 ≤ 9223372036854775807

theorem rises_any (a b : Int) (w : World) : Calls Try.prog 43 #[.int .i64 a, .int .i64 b] w fun e w' => e = .returned (.bool (decide (a < b) && decide (b ≤ 255))) ∧ w = w' := by
  by_cases h1 : a < b
  · have hb : decide (a < b) = true := by simp [h1]
    go_enter Try.func43, Try.ntmps43
    go_wp2
    go_ret
    exact ⟨by rw [hb]; rfl, rfl⟩
  · have hb : decide (a < b) = false := by simp; omega
    go_enter Try.func43, Try.ntmps43
    go_wp2
    go_ret
    exact ⟨rfl, rfl⟩

theorem rises_is {a b : Int} {t : Bool} (h : (decide (a < b) && decide (b ≤ 255)) = t) (w : World) : Calls Try.prog 43 #[.int .i64 a, .int .i64 b] w fun e w' => e = .returned (.bool t) ∧ w = w' := h ▸ rises_any a b w

set_option maxHeartbeats 400000 in
set_option maxRecDepth 20000 in
theorem allRise_any (A : Option Addr) (n c : Nat) (ss : List Sec) (w : World) (hl : ss.length = n) (hr : RdS w A ss) (hn : n ≤ maxLen) :
    Calls Try.prog 28 #[.slice A n c] w (GotBool w (riseFrom 0 ss)) := by
  unfold maxLen at hn
  have HL := Lib.hid hl
  clear hl
  go_enter Try.func28, Try.ntmps28
  go_wp2
  go_loopw [3, 8] (fun t i wr => ∃ (k : Nat) (last : Int), k ≤ n ∧ i = .int .i64 k ∧ t = .int .i64 last ∧ riseFrom 0 ss = riseFrom last (ss.drop k) ∧ Below w.heap.size w wr) (fun _ i _ => n - (intOf i).toNat)
  case atStart => exact ⟨0, 0, Nat.zero_le _, rfl, rfl, rfl, Below.refl _ _⟩
  case round =>
    obtain ⟨k, last, hk, rfl, rfl, he, hbl⟩ := hrel
    have HE := Lib.hid he
    clear he
    by_cases hlt : k < n
    · have hk' : k < ss.length := by have := HL.out; omega
      obtain ⟨ad, Ak, m, cm, rfl, hc1, hc2, _, _, _, _⟩ := (hr.below hbl).at hk'
      rcases hx : (decide (last < ss[k].1) && decide (ss[k].1 ≤ 255)) with _ | _
      · have HX := Lib.hid hx
        clear hx
        go_wp2_with fail
        refine (rises_is HX.out _).mono ?_
        rintro e w1 ⟨rfl, rfl⟩
        go_wp2
        go_ret
        refine ⟨?_, bl_alloc hbl _⟩
        rw [HE.out, rise_drop hk', HX.out]
        rfl
      · have HX := Lib.hid hx
        clear hx
        go_wp2_with fail
        refine (rises_is HX.out _).mono ?_
        rintro e w1 ⟨rfl, rfl⟩
        go_wp2
        refine ⟨⟨k + 1, ss[k].1, by omega, by go_num, rfl, ?_, bl_alloc hbl _⟩, by simp [intOf]; omega⟩
        rw [HE.out, rise_drop hk', HX.out]
        rfl
    · go_wp2
      go_ret
      refine ⟨?_, hbl⟩
      rw [HE.out, List.drop_of_length_le (by have := HL.out; omega)]
      rfl

/-- Find. -/
def findE (tag : Int) : List Sec → Option (List UInt8)
  | [] => none
  | s :: r => if s.1 = tag then some s.2 else findE tag r
theorem find_drop {ss : List Sec} {k : Nat} (h : k < ss.length) (tag : Int) : findE tag (ss.drop k) = if ss[k].1 = tag then some ss[k].2 else findE tag (ss.drop (k + 1)) := by
  rw [List.drop_eq_getElem_cons h, findE]
def Found (w : World) (o : Option (List UInt8)) (e : Ending) (w' : World) : Prop := ∃ v, e = .returned (.tuple #[v, .bool o.isSome]) ∧ Own w' w.heap.size v (o.getD []) ∧ Below w.heap.size w w'

set_option maxHeartbeats 400000 in
set_option maxRecDepth 20000 in
theorem find_any (A : Option Addr) (n c : Nat) (tag : Int) (ss : List Sec) (w : World) (hl : ss.length = n) (hr : RdS w A ss) (hn : n ≤ maxLen) (hd : ∀ s ∈ ss, s.2.length ≤ 200000000000000) :
    Calls Try.prog 14 #[.slice A n c, .int .i64 tag] w (Found w (findE tag ss)) := by
  unfold maxLen at hn
  have HL := Lib.hid hl
  have HD := Lib.hid hd
  clear hl hd
  go_enter Try.func14, Try.ntmps14
  go_wp2
  go_loopw [10] (fun i wr => ∃ (k : Nat), k ≤ n ∧ i = .int .i64 k ∧ findE tag ss = findE tag (ss.drop k) ∧ Below w.heap.size w wr) (fun i _ => n - (intOf i).toNat)
  case atStart => exact ⟨0, Nat.zero_le _, rfl, rfl, Below.refl _ _⟩
  case round =>
    obtain ⟨k, hk, rfl, he, hbl⟩ := hrel
    have HE := Lib.hid he
    clear he
    by_cases hlt : k < n
    · have hk' : k < ss.length := by have := HL.out; omega
      obtain ⟨ad, Ak, m, cm, rfl, hc1, hc2, HLk, _, _, hrk⟩ := (hr.below hbl).at hk'
      by_cases hx : ss[k].1 = tag
      · have hb : (ss[k].1 == tag) = true := by simp [hx]
        have HX := Lib.hid hx
        clear hx
        have hm : m ≤ 200000000000000 := by have := HD.out _ (List.getElem_mem hk'); have := HLk.out; omega
        go_wp2_with fail
        refine (clone_any _ _ _ ss[k].2 _ HLk.out (hrk.alloc _) hm).mono ?_
        rintro e w2 ⟨v, rfl, ho, hb2⟩
        go_wp2
        go_ret2
        rw [HE.out, find_drop hk', if_pos HX.out]
        have hB := bl_alloc hbl (.cells #[Value.int IntKind.i64 ss[k].1, Value.slice Ak m cm] 41)
        exact ⟨v, rfl, ho.more hB.size, bl_trans hB hb2⟩
      · have hb : (ss[k].1 == tag) = false := by simp [hx]
        have HX := Lib.hid hx
        clear hx
        go_wp2
        refine ⟨⟨k + 1, by omega, by go_num, ?_, bl_alloc hbl _⟩, by simp [intOf]; omega⟩
        rw [HE.out, find_drop hk', if_neg HX.out]
    · go_wp2
      go_ret2
      rw [HE.out, List.drop_of_length_le (by have := HL.out; omega)]
      exact ⟨_, rfl, Own.nil _ _, hbl⟩

/-- What 'written' answers. -/
def wroteE (ss : List Sec) : List UInt8 × Nat := if 262144 < 11 + (bodyOf ss).length then ([], 5) else (bodyOf ss, 0)

set_option maxHeartbeats 1000000 in
set_option maxRecDepth 20000 in
theorem written_any (A : Option Addr) (n c : Nat) (ss : List Sec) (w : World) (hl : ss.length = n) (hr : RdS w A ss) (hn : n ≤ maxLen) (hd : ∀ s ∈ ss, s.2.length ≤ 150000000000000) (hrise : riseFrom 0 ss = true) :
    Calls Try.prog 29 #[.slice A n c] w (GotBytesE w (wroteE ss).1 (wroteE ss).2) := by
  unfold maxLen at hn
  have HL := Lib.hid hl
  have HD := Lib.hid hd
  have HR := Lib.hid (rise_mem (by omega) hrise)
  clear hl hd hrise
  go_enter Try.func29, Try.ntmps29
  go_wp2
  go_loopw [4, 11] (fun v i wr => ∃ (k : Nat), k ≤ n ∧ i = .int .i64 k ∧ Own wr w.heap.size v (bodyTo ss k) ∧ 11 + (bodyTo ss k).length ≤ 262144 ∧ Below w.heap.size w wr) (fun _ i _ => n - (intOf i).toNat)
  case atStart => exact ⟨0, Nat.zero_le _, rfl, Own.nil _ _, by simp [bodyTo, bodyOf], Below.refl _ _⟩
  case round =>
    obtain ⟨k, hk, rfl, hown, hsz, hbl⟩ := hrel
    by_cases hlt : k < n
    · have hk' : k < ss.length := by have := HL.out; omega
      obtain ⟨ad, Ak, m, cm, rfl, hc1, hc2, HLk, _, _, hrk⟩ := (hr.below hbl).at hk'
      obtain ⟨ht0, ht1⟩ := HR.out _ (List.getElem_mem hk')
      have hm : m ≤ 150000000000000 := by have := HD.out _ (List.getElem_mem hk'); have := HLk.out; omega
      have hB := bl_alloc hbl (.cells #[Value.int IntKind.i64 ss[k].1, Value.slice Ak m cm] 41)
      have hmore := Lib.hid (body_more hk')
      have HS : Hid ((secB ss[k]).length = 1 + ((digs m).length + m)) := Lib.hid <| by have := HLk.out; unfold secB; simp [this]; omega
      have hle := body_le ss (k + 1)
      have HT : Hid (textE ss[k].2 262144 = _) := Lib.hid (textE.eq_1 ss[k].2 262144)
      rw [if_neg (by omega), HLk.out] at HT
      have htx := text_any Ak m cm 262144 ss[k].2 _ HLk.out (hrk.alloc (.cells #[Value.int IntKind.i64 ss[k].1, Value.slice Ak m cm] 41)) (by omega) (by omega) (by omega)
      by_cases hbig : 262144 < m
      · rw [if_pos (by omega)] at HT
        rw [HT.out] at htx
        have HX := Lib.hid htx
        clear htx
        go_wp2_with fail
        refine (HX.out).mono ?_
        rintro e w2 ⟨v, rfl, ho, hb2⟩
        go_wp2
        go_ret2
        have : wroteE ss = ([], 5) := by
          unfold wroteE
          rw [hmore.out, List.length_append, HS.out] at hle
          rw [if_pos (by omega)]
        rw [this]
        exact ⟨_, rfl, Own.nil _ _, bl_trans hB hb2⟩
      · rw [if_neg (by omega)] at HT
        rw [HT.out] at htx
        have HX := Lib.hid htx
        clear htx
        go_wp2_with fail
        refine (HX.out).mono ?_
        rintro e w2 ⟨v, rfl, ho, hb2⟩
        obtain ⟨Av, nv, cv, rfl, HLv, _, _, _⟩ := ho.form
        have hown2 := (hown.alloc (.cells #[Value.int IntKind.i64 ss[k].1, Value.slice Ak m cm] 41)).below hb2
        have hB2 := bl_trans hB hb2
        have hsz2 := hB2.size
        have hbox : w2.cell? ⟨wr.heap.size, 0, none⟩ = some (.int .i64 ss[k].1) := (hb2.cell (by simp)).trans (by simp)
        have hap := own_apart' hown ho (by simp)
        have hd8 : (digs m).length ≤ 8 := digs_len8 (by omega)
        clear hc1 hc2 HX hb2
        go_wp2_with (at_builtin; refine wpList_append_bytes _ rfl _ _ rfl w.heap.size _ (bodyTo ss k) rfl (hown2.alloc _) _ 1 1 [tagB ss[k].1] rfl rfl (Rd.one _ _ _ (by unfold bv; rw [tagB_nat (by omega) (by omega)])) (by simp; omega) (by simp; omega) ?_)
        intro v1 w3 ho3 hg3 _
        have hot := (ho.alloc _).kept hg3 hap
        have hB3 : Below w.heap.size w w3 := bl_grown (bl_alloc hB2 _) hg3 (fun k hk => (hown2.lt k hk).1)
        have hsz3 := hB3.size
        have hrd3 : Rd w3 Av (digs m ++ ss[k].2) := hot.rd
        have hbnd : (bodyTo ss k ++ [tagB ss[k].1]).length + (digs m ++ ss[k].2).length ≤ 200000000000000 := by have := HLk.out; simp; omega
        have HB := Lib.hid hbnd
        clear hbnd
        go_wp2_with (at_builtin; refine wpList_append_bytes _ rfl _ _ rfl w.heap.size _ (bodyTo ss k ++ [tagB ss[k].1]) rfl ho3 Av nv cv (digs m ++ ss[k].2) rfl HLv.out hrd3 HB.out hsz3 ?_)
        intro v2 w4 ho4 hg4 _
        have hB4 : Below w.heap.size w w4 := bl_grown hB3 hg4 (fun k hk => (ho3.lt k hk).1)
        have hbody : Hid (bodyTo ss k ++ tagB ss[k].1 :: (digs m ++ ss[k].2) = bodyTo ss (k + 1)) := by
          unfold Hid
          rw [hmore.out]
          unfold secB
          rw [HLk.out]
        rw [hbody.out] at ho4
        obtain ⟨A4, n4, c4, rfl, HL4, hn4, hc4, _⟩ := ho4.form
        have hn4' : n4 ≤ 600000 := by have := HL4.out; rw [hmore.out, List.length_append, HS.out] at this; omega
        by_cases hover : 262144 < 11 + n4
        · have hb : decide ((262144 : Int) < 11 + (n4 : Int)) = true := by simp; omega
          go_wp2
          go_ret2
          have : wroteE ss = ([], 5) := by
            unfold wroteE
            rw [HL4.out] at hle
            rw [if_pos (by omega)]
          rw [this]
          exact ⟨_, rfl, Own.nil _ _, hB4⟩
        · have hb : decide ((262144 : Int) < 11 + (n4 : Int)) = false := by simp; omega
          go_wp2
          exact ⟨⟨k + 1, by omega, by go_num, ho4, by rw [HL4.out]; omega, hB4⟩, by simp [intOf]; omega⟩
    · go_wp2
      go_ret2
      have : wroteE ss = (bodyOf ss, 0) := by
        unfold wroteE
        rw [← body_all (k := k) (by have := HL.out; omega), if_neg (by omega)]
      rw [this, ← body_all (k := k) (by have := HL.out; omega)]
      exact ⟨_, rfl, hown, hbl⟩

end Go.Proofs.Ytlblcligjelbgaa
