/- What Join, Text and TakeText of package varnum do: contracts over the translated program. -/
import Derived.Test.YtlblcligjelbgaaWalkB
import Derived.Deep.RegionWith
import Derived.Deep.RegionHeld3
set_option linter.unusedVariables false
namespace Go.Proofs.Ytlblcligjelbgaa
open Go.RowKit

/-- A slice of slices of bytes, in memory. -/
def RdL (w : World) (A : Option Addr) (ll : List (List UInt8)) : Prop :=
  0 < ll.length → ∃ ad, A = some ad ∧ ∀ j (h : j < ll.length), ∃ Aj cj, w.cell? (ad.add j) = some (.slice Aj ll[j].length cj) ∧ Rd w Aj ll[j]

theorem RdL.at {w : World} {A : Option Addr} {ll : List (List UInt8)} (h : RdL w A ll) {k : Nat} (hk : k < ll.length) :
    ∃ ad Ak ck, A = some ad ∧ w.cell? (ad.add k) = some (.slice Ak ll[k].length ck) ∧ Rd w Ak ll[k] := by
  obtain ⟨ad, e, hc⟩ := h (by omega)
  obtain ⟨Ak, ck, h1, h2⟩ := hc k hk
  exact ⟨ad, Ak, ck, e, h1, h2⟩
theorem RdL.below {w w' : World} {A : Option Addr} {ll : List (List UInt8)} (h : RdL w A ll) (hb : Below w.heap.size w w') : RdL w' A ll := fun hl => by
  obtain ⟨ad, e, hc⟩ := h hl
  refine ⟨ad, e, fun j hj => ?_⟩
  obtain ⟨Aj, cj, h1, h2⟩ := hc j hj
  exact ⟨Aj, cj, (hb.cell (World.block_lt_of_cell? w _ h1)).trans h1, h2.below hb⟩

/-- The first k lists, one behind the other; how many bytes they have. -/
def catTo (ll : List (List UInt8)) (k : Nat) : List UInt8 := (ll.take k).flatten
def catLen (ll : List (List UInt8)) (k : Nat) : Nat := (catTo ll k).length
theorem cat_more {ll : List (List UInt8)} {k : Nat} (h : k < ll.length) : catTo ll (k + 1) = catTo ll k ++ ll[k] := by
  unfold catTo
  rw [List.take_succ_eq_append_getElem h, List.flatten_append]; simp
theorem catLen_more {ll : List (List UInt8)} {k : Nat} (h : k < ll.length) : catLen ll (k + 1) = catLen ll k + ll[k].length := by
  unfold catLen
  rw [cat_more h, List.length_append]
theorem cat_all (ll : List (List UInt8)) (k : Nat) (h : ll.length ≤ k) : catTo ll k = ll.flatten := by unfold catTo; rw [List.take_of_length_le h]
theorem catLen_le (ll : List (List UInt8)) (k : Nat) : catLen ll k ≤ ll.flatten.length := by
  have h : ll.flatten = (ll.take k).flatten ++ (ll.drop k).flatten := by rw [← List.flatten_append, List.take_append_drop]
  unfold catLen catTo
  rw [h, List.length_append]; omega

set_option maxHeartbeats 1000000 in
set_option maxRecDepth 20000 in
theorem join_any (A : Option Addr) (n c : Nat) (ll : List (List UInt8)) (w : World) (hl : ll.length = n) (hr : RdL w A ll) (hn : n ≤ maxLen) (hs : ll.flatten.length ≤ 200000000000000) :
    Calls Try.prog 32 #[.slice A n c] w (GotBytes w ll.flatten) := by
  unfold maxLen at hn
  obtain ⟨i0, hi, hz0, hz1, hz2⟩ := info_parts info_u8
  have HL := Lib.hid hl
  have hcl : ∀ k, catLen ll k ≤ 200000000000000 := fun k => by have := catLen_le ll k; omega
  have HC := Lib.hid hcl
  clear hl hcl hs
  go_enter Try.func32, Try.ntmps32
  go_wp2
  go_loop [3, 11] (fun t i => ∃ k : Nat, k ≤ n ∧ i = .int .i64 k ∧ t = .int .i64 (catLen ll k : Int)) (fun _ i => n - (intOf i).toNat)
  case atStart => exact ⟨0, Nat.zero_le _, rfl, rfl⟩
  case round =>
    obtain ⟨k, hk, rfl, rfl⟩ := hrel
    have hle := HC.out k
    by_cases hlt : k < n
    · have hk' : k < ll.length := by have := HL.out; omega
      obtain ⟨ad, Ak, ck, rfl, hcell, _⟩ := hr.at hk'
      have hle' := HC.out (k + 1)
      have hm := catLen_more hk'
      rw [hm] at hle'
      have HM := Lib.hid hm
      clear hm
      go_wp2
      refine ⟨⟨k + 1, by omega, by go_num, ?_⟩, by simp [intOf]; omega⟩
      rw [HM.out]
      go_num
    · go_wp2_with (at_make; refine wpList_make_own _ rfl _ _ 24 rfl w.heap.size 5 i0 (.int .u8 0) 1 Try.underlying24 hi hz0 hz1 _ _ _ (catLen ll k) rfl rfl rfl (by rw [hz2]; omega) (by simp only [maxLen]; omega) (Nat.le_refl _) ?_)
      intro w1 ho hg
      have hb1 : Below w.heap.size w w1 := bl_grown (Below.refl _ _) hg (by simp)
      have ho1 : Own w1 w.heap.size (.slice (some ⟨w.heap.size, 0, none⟩) 0 (catLen ll k)) [] := ho
      clear ho hg
      go_wp2
      go_loopw [6, 24] (fun v i wr => ∃ q : Nat, q ≤ n ∧ i = .int .i64 q ∧ Own wr w.heap.size v (catTo ll q) ∧ Below w.heap.size w wr) (fun _ i _ => n - (intOf i).toNat)
      case atStart => exact ⟨0, Nat.zero_le _, rfl, ho1, hb1⟩
      case round =>
        clear ho1 hb1
        obtain ⟨q, hq, rfl, hown, hbl⟩ := hrel
        by_cases hqn : q < n
        · have hq' : q < ll.length := by have := HL.out; omega
          obtain ⟨ad, Aq, cq, rfl, hcell, hrq⟩ := (hr.below hbl).at hq'
          have hle' := HC.out (q + 1)
          rw [catLen_more hq'] at hle'
          have hle'' : (catTo ll q).length + ll[q].length ≤ 200000000000000 := hle'
          have hsz := hbl.size
          go_wp2_with (at_builtin; refine wpList_append_bytes _ rfl _ _ rfl w.heap.size _ (catTo ll q) rfl hown Aq _ cq ll[q] rfl rfl hrq (by omega) (by omega) ?_)
          intro v' w' ho' hg' _
          go_wp2
          refine ⟨⟨q + 1, by omega, by go_num, ?_, bl_grown hbl hg' (fun k hk => (hown.lt k hk).1)⟩, by simp [intOf]; omega⟩
          rw [cat_more hq']
          exact ho'
        · go_wp2
          go_ret
          refine ⟨_, rfl, ?_, hbl⟩
          rw [← cat_all ll q (by have := HL.out; omega)]
          exact hown

theorem RdL.two {w : World} {A B : Option Addr} {a b c d : Nat} {x y : List UInt8} (hx : x.length = a) (hy : y.length = b) (h1 : Rd w A x) (h2 : Rd w B y) (t : TypeId) :
    RdL (w.alloc (.cells #[.slice A a c, .slice B b d] t)) (some ⟨w.heap.size, 0, none⟩) [x, y] := fun _ => by
  subst hx hy
  refine ⟨_, rfl, fun j hj => ?_⟩
  have hj2 : j = 0 ∨ j = 1 := by simp at hj; omega
  rcases hj2 with rfl | rfl
  · exact ⟨A, c, by simp [Addr.add], h1.alloc _⟩
  · exact ⟨B, d, by simp [Addr.add], h2.alloc _⟩

set_option maxHeartbeats 1000000 in
set_option maxRecDepth 20000 in
theorem text_any (A : Option Addr) (n c : Nat) (most : Int) (l : List UInt8) (w : World) (hl : l.length = n) (hr : Rd w A l) (hn : n + 8 ≤ 200000000000000) (h1 : -9223372036854775808 ≤ most) (h2 : most ≤ 9223372036854775807) :
    Calls Try.prog 44 #[.slice A n c, .int .i64 most] w (GotBytesE w (textE l most).1 (textE l most).2) := by
  have HT : Hid (textE l most = _) := Lib.hid (textE.eq_1 l most)
  have HL := Lib.hid hl
  clear hl
  by_cases ha : most < 0
  · have hb : decide (most < 0) = true := by simp [ha]
    go_enter Try.func44, Try.ntmps44
    go_wp2_with fail
    go_ret2
    rw [HT.out, if_pos ha]
    exact ⟨_, rfl, Own.nil _ _, Below.refl _ _⟩
  · by_cases hb : most < n
    · go_enter Try.func44, Try.ntmps44
      go_wp2_with fail
      go_ret2
      rw [HT.out, if_neg (by omega), if_pos (by rw [HL.out]; exact hb)]
      exact ⟨_, rfl, Own.nil _ _, Below.refl _ _⟩
    · have hd8 : (digs n).length ≤ 8 := by
        rcases digs_len_le 8 n (by omega) with h | h
        · exact h
        · omega
      go_enter Try.func44, Try.ntmps44
      go_wp2_with (go_at_call 51; refine (digits_any _ _ (by omega)).mono ?_; rintro e w1 ⟨v, rfl, ho, hb1⟩; obtain ⟨Av, cv, rfl, _, _, hrv⟩ := ho.shape)
      have hr1 := hr.below hb1
      have hr2 := RdL.two (a := (digs n).length) (b := n) (c := cv) (d := c) rfl HL.out hrv hr1 24
      refine (join_any _ 2 2 [digs n, l] _ rfl hr2 (by simp [maxLen]) (by have := HL.out; simp; omega)).mono ?_
      rintro e w2 ⟨v, rfl, ho2, hb2⟩
      go_wp2
      go_ret2
      rw [HT.out, if_neg (by omega), if_neg (by rw [HL.out]; omega), HL.out]
      have hsz : w.heap.size ≤ (w1.alloc (.cells #[.slice Av (digs n).length cv, .slice A n c] 24)).heap.size := by have := hb1.size; simp; omega
      exact ⟨_, rfl, by simpa using ho2.more hsz, bl_trans (bl_alloc hb1 _) hb2⟩

/-- What was made later lies elsewhere. -/
theorem own_apart {w w' : World} {b : Nat} {v u : Value} {x y : List UInt8} (h : Own w b v x) (h' : Own w' w.heap.size u y) : v.ownBlock = none ∨ v.ownBlock ≠ u.ownBlock := by
  rcases hv : v.ownBlock with _ | k
  · exact .inl rfl
  · right
    intro he
    have h1 := h.lt k hv
    have h2 := h'.lt k he.symm
    omega

/-- Two texts and an error's number. -/
def GotTextsE (w : World) (t r : List UInt8) (er : Nat) (e : Ending) (w' : World) : Prop := ∃ v u, e = .returned (.tuple #[v, u, .int .i64 (er : Int)]) ∧ Own w' w.heap.size v t ∧ Own w' w.heap.size u r ∧ (v.ownBlock = none ∨ v.ownBlock ≠ u.ownBlock) ∧ Below w.heap.size w w'

set_option maxHeartbeats 1000000 in
set_option maxRecDepth 20000 in
theorem takeT_any (A : Option Addr) (n c : Nat) (most : Int) (l : List UInt8) (w : World) (hl : l.length = n) (hr : Rd w A l) (hnc : n ≤ c) (hc : c ≤ maxLen) (hn : n ≤ 200000000000000) (h1 : -9223372036854775808 ≤ most) (h2 : most ≤ 9223372036854775807) :
    Calls Try.prog 49 #[.slice A n c, .int .i64 most] w (GotTextsE w (takeT l most).1 (takeT l most).2.1 (takeT l most).2.2) := by
  have HX := Lib.hid (head_any A n c l w hl hr hnc hc)
  have hf := head_facts l
  have HT : Hid (takeT l most = _) := Lib.hid (takeT.eq_1 l most)
  unfold maxLen at hc
  generalize headE l = p at *
  obtain ⟨m, s, er⟩ := p
  dsimp only at hf HX HT
  have HL := Lib.hid hl
  clear hl
  by_cases ha : most < 0
  · have hb : decide (most < 0) = true := by simp [ha]
    go_enter Try.func49, Try.ntmps49
    go_wp2_with fail
    go_ret3
    rw [HT.out, if_pos ha]
    exact ⟨_, _, rfl, Own.nil _ _, Own.nil _ _, .inl rfl, Below.refl _ _⟩
  · have hb : decide (most < 0) = false := by simp; omega
    rcases hf with ⟨rfl, g1, g2, g3, g4⟩ | ⟨rfl, rfl, g4⟩
    · have hsn : s ≤ n := by have := HL.out; omega
      obtain ⟨A', hcut, hr'⟩ := cut_from A n c s l w HL.out hr hsn hnc
      have hld : (l.drop s).length = n - s := by rw [List.length_drop, HL.out]
      rw [hld] at HT
      clear hr
      by_cases hm : most < m
      · go_enter Try.func49, Try.ntmps49
        go_wp2_with (go_at_call 54; refine (HX.out).mono ?_; rintro e w' ⟨rfl, rfl⟩)
        go_ret3
        rw [HT.out, if_neg (by omega), if_neg (by simp), if_pos hm]
        exact ⟨_, _, rfl, Own.nil _ _, Own.nil _ _, .inl rfl, Below.refl _ _⟩
      · by_cases hq : n - s < m
        · go_enter Try.func49, Try.ntmps49
          go_wp2_with (go_at_call 54; refine (HX.out).mono ?_; rintro e w' ⟨rfl, rfl⟩)
          go_ret3
          rw [HT.out, if_neg (by omega), if_neg (by simp), if_neg (by omega), if_pos hq]
          exact ⟨_, _, rfl, Own.nil _ _, Own.nil _ _, .inl rfl, Below.refl _ _⟩
        · obtain ⟨A'', hcut2, hr''⟩ := cut_from A' (n - s) (c - s) m (l.drop s) w hld hr' (by omega) (by omega)
          have hk1 : ((l.drop s).take m).length = m := by rw [List.length_take, hld]; omega
          have hk2 : ((l.drop s).drop m).length = n - s - m := by rw [List.length_drop, hld]
          have HK1 := Lib.hid hk1
          have HK2 := Lib.hid hk2
          have HLD := Lib.hid hld
          have hrt := hr'.take m
          clear hk1 hk2 hld hr'
          go_enter Try.func49, Try.ntmps49
          go_wp2_with (go_at_call 54; refine (HX.out).mono ?_; rintro e w' ⟨rfl, rfl⟩)
          go_region_with (first
            | (go_at_call_of 36 A''; refine (clone_any _ _ _ ((l.drop s).drop m) _ HK2.out ?_ (by omega)).mono ?_; exact Rd.below (w := w.drew) hr'' hb1; rintro e w2 ⟨v2, rfl, ho2, hb2⟩)
            | (go_at_call_of 36 A'; refine (clone_any _ _ _ ((l.drop s).take m) _ HK1.out ?_ (by omega)).mono ?_; exact hrt; rintro e w1 ⟨v1, rfl, ho1, hb1⟩))
          go_wp2
          go_ret3
          rw [HT.out, if_neg (by omega), if_neg (by simp), if_neg (by omega), if_neg hq]
          have hb1' : Below w.heap.size w w1 := bl_trans (Below.drew (Below.refl _ _)) hb1
          exact ⟨v1, v2, rfl, ho1.below hb2, ho2.more hb1'.size, own_apart ho1 ho2, bl_trans hb1' hb2⟩
    · clear hr
      rcases g4 with rfl | rfl
      all_goals
        go_enter Try.func49, Try.ntmps49
        go_wp2_with (go_at_call 54; refine (HX.out).mono ?_; rintro e w' ⟨rfl, rfl⟩)
        go_ret3
        rw [HT.out, if_neg (by omega)]
        exact ⟨_, _, rfl, Own.nil _ _, Own.nil _ _, .inl rfl, Below.refl _ _⟩

end Go.Proofs.Ytlblcligjelbgaa
