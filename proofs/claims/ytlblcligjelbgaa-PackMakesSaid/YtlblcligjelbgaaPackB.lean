/- word, sealed, number, Size, Pack of package pack: contracts over the translated program. -/
import Derived.Test.YtlblcligjelbgaaPackA
import Derived.Lib.SlBytesConst
set_option linter.unusedVariables false
namespace Go.Proofs.Ytlblcligjelbgaa
open Go.RowKit

set_option maxHeartbeats 400000 in
set_option maxRecDepth 20000 in
theorem word_any (x : BitVec 32) (w : World) : Calls Try.prog 30 #[.int .u32 (x.toNat : Int)] w (GotBytes w (fourE x)) := by
  go_enter Try.func30, Try.ntmps30
  go_wp2
  go_ret
  refine ⟨_, rfl, ?_, bl_alloc (Below.refl _ _) _⟩
  have h := Own.lit (w := w) w.heap.size (fourE x) (Nat.le_refl _) (by simp [fourE, maxLen])
  have e : ((fourE x).map bv).toArray = #[Value.int .u8 ((x.toNat : Int) % 256), Value.int .u8 ((x.toNat : Int) / 256 % 256), Value.int .u8 ((x.toNat : Int) / 65536 % 256), Value.int .u8 ((x.toNat : Int) / 16777216)] := by
    have e1 := bv_mid x 8 256 rfl
    have e2 := bv_mid x 16 65536 rfl
    have e3 := bv_top x
    unfold fourE
    simp only [List.map, ← e3, ← bv_low x]
    rw [← e1, ← e2]
    rfl
  rw [e] at h
  exact h
theorem word_nat (n : Nat) (hn : n < 4294967296) (w : World) : Calls Try.prog 30 #[.int .u32 (n : Int)] w (GotBytes w (fourN n)) := by
  have h := word_any (BitVec.ofNat 32 n) w
  rw [BitVec.toNat_ofNat, Nat.mod_eq_of_lt (by omega)] at h
  exact h

/-- append onto a slice that has no room: new memory. -/
theorem step_append_full {ops : Array Oper} {o : Oper} {a : Act} {w : World} {K : Act → World → Prop} {Q : Exit → Act → World → Prop} {E : Prop}
    (hg : o.guard = none) (s x : Operand) (hop : o.op = Op.call { callee := Callee.builtin Builtin.append, args := #[s, x], argTypes := #[24, 24] })
    (A : Option Addr) (n : Nat) (l : List UInt8) (hs : a.eval s = .slice A n n) (hl : l.length = n) (hr : Rd w A l)
    (A' : Option Addr) (m c : Nat) (l' : List UInt8) (hx : a.eval x = .slice A' m c) (hl' : l'.length = m) (hr' : Rd w A' l') (hm : 0 < m) (hb : n + m ≤ 140737488355328)
    (hK : ∀ v' w', Own w' w.heap.size v' (l ++ l') → w.grownBy w' none → K (a.put o.dst v') w') :
    if Region.wanted o (yielded ops a.tmps) = true then Oper.wp Try.prog o a w K Q else E := by
  obtain ⟨i, hi, hz, hs1, hb1⟩ := info_parts info_u8
  obtain ⟨ad, rfl, hc⟩ := hr' (by omega)
  refine step_append_grows hg s x 24 hop 5 i (.int .u8 0) 1 1 Try.underlying24 hi hz hs1 hb1 rfl (by omega) A n n (l.map bv) hs ?_ (by simp [hl]) ?_ ad m c (l'.map bv) hx (by simp [hl']) ?_ (bv_one l') (by omega) (by simp only [maxLen]; omega) (by omega) ?_
  · rintro rfl
    by_cases h0 : 0 < l.length
    · obtain ⟨_, h, _⟩ := hr h0
      cases h
    · omega
  · rintro b rfl j u hu
    rw [List.getElem?_map] at hu
    obtain ⟨y, hy, rfl⟩ := Option.map_eq_some_iff.1 hu
    obtain ⟨hj, rfl⟩ := List.getElem?_eq_some_iff.1 hy
    obtain ⟨b', e, hcc⟩ := hr (by omega)
    cases e
    exact hcc j hj
  · intro j u hu
    rw [List.getElem?_map] at hu
    obtain ⟨y, hy, rfl⟩ := Option.map_eq_some_iff.1 hu
    obtain ⟨hj, rfl⟩ := List.getElem?_eq_some_iff.1 hy
    exact hc j hj
  · intro v' w' ho hgr
    refine hK v' w' ?_ hgr
    unfold Own
    rw [List.length_append, List.map_append, hl, hl']
    exact ho

theorem cut_full (A : Option Addr) (n c : Nat) (hnc : n ≤ c) (W : World) : (Instr.slice 24 (.slice A n c) none (some (.int .i64 (n : Int))) (some (.int .i64 (n : Int)))).run Try.prog W = .ok (.slice A n n) W := by
  obtain ⟨i, hi, _, hs1, _⟩ := info_parts info_u8
  have he : Try.prog.elem 24 = 5 := by kernel_rfl
  have hb : (Instr.sliceBounds true n c none (some (.int .i64 (n : Int))) (some (.int .i64 (n : Int)))).run Try.prog W = .ok (0, n, n) W := by
    simp [Instr.sliceBounds, go_sem, hnc]
  rw [run_slice_any W 24 A n c (by rw [he]; exact Try.underlying24), hb]
  simp [sizeOf, typeInfo, he, hi, hs1, sliced, Result.andThen]
  intro _
  cases A <;> simp [Addr.add]

set_option maxHeartbeats 1000000 in
set_option maxRecDepth 20000 in
theorem sealed_any (A : Option Addr) (n c : Nat) (l : List UInt8) (w : World) (hl : l.length = n) (hr : Rd w A l) (hnc : n ≤ c) (hn : n ≤ 100000000000000) :
    Calls Try.prog 31 #[.slice A n c] w (GotBytes w (sealE l)) := by
  have HL := Lib.hid hl
  clear hl
  have hcut := cut_full A n c hnc
  go_enter Try.func31, Try.ntmps31
  go_wp2
  have hd : Below w.heap.size w w.drew := Below.drew (Below.refl _ _)
  go_region_law (first
    | (refine step_append_full (by rfl) _ _ (by rfl) A n l (by rfl) HL.out (hr.below (bl_trans (bl_trans hd hb1) hb2)) A2 4 c2 (fourE (ofE l)) (by rfl) rfl hr2 (by omega) (by omega) ?_; intro v3 w3 ho3 hg3)
    | (go_simp; go_at_call 38; refine (of_any A n c l _ HL.out (hr.below hd) (by simp only [maxLen]; omega)).mono ?_; rintro e w1 ⟨rfl, hb1⟩)
    | (go_simp; go_at_call 30; refine (word_any (ofE l) _).mono ?_; rintro e w2 ⟨v2, rfl, ho2, hb2⟩; obtain ⟨A2, c2, rfl, _, _, hr2⟩ := ho2.shape))
  all_goals
    go_wp2
    go_ret
    exact ⟨v3, rfl, ho3.more (bl_trans (bl_trans hd hb1) hb2).size, bl_grown (bl_trans (bl_trans hd hb1) hb2) hg3 (by simp)⟩

theorem cut_mid (A : Option Addr) (n c s d : Nat) (l : List UInt8) (w : World) (hl : l.length = n) (hr : Rd w A l) (ht : s + d ≤ n) (hnc : n ≤ c) (zs zt : Int) (es : (s : Int) = zs) (et : ((s + d : Nat) : Int) = zt) :
    ∃ A', (∀ W : World, (Instr.slice 24 (.slice A n c) (some (.int .i64 zs)) (some (.int .i64 zt)) none).run Try.prog W = .ok (.slice A' d (c - s)) W) ∧ Rd w A' ((l.take (s + d)).drop s) ∧ Hid (((l.take (s + d)).drop s).length = d) := by
  subst es et
  refine ⟨_, fun W => ?_, (hr.take (s + d)).drop s c (by rw [List.length_take]; omega), by rw [Hid, List.length_drop, List.length_take]; omega⟩
  obtain ⟨i, hi, _, hs1, _⟩ := info_parts info_u8
  have he : Try.prog.elem 24 = 5 := by kernel_rfl
  rw [run_slice_lh W 24 A n c (by rw [he]; exact Try.underlying24) .i64 .i64 s (s + d : Nat) (by omega) (by omega) (by omega)]
  simp [sizeOf, typeInfo, he, hi, hs1, sliced, Result.andThen]
  omega

theorem or_byte (a d k : Nat) (ha : a < 256 ^ k) (hd : d < 256) (hk : k ≤ 3) :
    bits .or .i64 (a : Int) (wrap64 ((d : Int) * 2 ^ (8 * k))) = ((a + 256 ^ k * d : Nat) : Int) := by
  have hp : (256 : Nat) ^ k = 2 ^ (8 * k) := by rw [Nat.pow_mul]
  have hle : 2 ^ (8 * k) ≤ 16777216 := by
    have := Nat.pow_le_pow_right (n := 2) (by omega) (show 8 * k ≤ 24 by omega)
    omega
  rw [hp] at ha ⊢
  have hm : d * 2 ^ (8 * k) ≤ 255 * 16777216 := Nat.mul_le_mul (by omega) hle
  have hc : ((d : Int) * 2 ^ (8 * k)) = ((d * 2 ^ (8 * k) : Nat) : Int) := by simp
  rw [hc, IntWalk.wrap64_in _ ⟨by omega, by omega⟩, or_nat64 _ _ (by omega) (by omega), Nat.mul_comm d, Nat.or_comm, ← Nat.two_pow_add_eq_or_of_lt ha, Nat.add_comm]

set_option maxHeartbeats 400000 in
theorem number_any (A : Option Addr) (n c : Nat) (l : List UInt8) (w : World) (hl : l.length = n) (hr : Rd w A l) (hn : n ≤ 4) :
    Calls Try.prog 39 #[.slice A n c] w fun e w' => e = .returned (.int .i64 (leN l : Int)) ∧ w = w' := by
  go_enter Try.func39, Try.ntmps39
  go_wp2
  go_loop [3, 8] (fun t i => ∃ k : Nat, k ≤ n ∧ i = .int .i64 k ∧ t = .int .i64 (leN (l.take k) : Int)) (fun _ i => n - (intOf i).toNat)
  case atStart => exact ⟨0, Nat.zero_le _, rfl, rfl⟩
  case round =>
    obtain ⟨k, hk, rfl, rfl⟩ := hrel
    have HL := Lib.hid hl
    clear hl
    by_cases hlt : k < n
    · obtain ⟨ad, rfl, hc⟩ := hr.cell (k := k) (by have := HL.out; omega)
      clear hr
      go_wp2
      have hk' : k < l.length := by have := HL.out; omega
      have hv := leN_lt (l.take k)
      rw [List.length_take, Nat.min_eq_left (by omega)] at hv
      refine ⟨⟨k + 1, by omega, by go_num, ?_⟩, by simp [intOf]; omega⟩
      have := or_byte (leN (l.take k)) l[k].toNat k hv l[k].toNat_lt (by omega)
      have h8 := l[k].toNat_lt
      have hwr : wrap64 (l[k].toNat : Int) = (l[k].toNat : Int) := IntWalk.wrap64_in _ ⟨by omega, by omega⟩
      rw [leN_more hk']
      simpa [hwr] using this
    · go_wp2
      go_ret
      obtain rfl : k = n := by omega
      exact ⟨by rw [List.take_of_length_le (by have := HL.out; omega)]; rfl, rfl⟩

/-- Two numbers, and nothing that was there has turned. -/
def GotSz (w : World) (a b : Nat) (e : Ending) (w' : World) : Prop := e = .returned (.tuple #[.int .i64 (a : Int), .int .i64 (b : Int)]) ∧ Below w.heap.size w w'

theorem min_lit (m k : Nat) (z : Int) (hz : (k : Int) = z) : ∃ j : Nat, Hid (j = min m k) ∧ j ≤ m ∧ j ≤ k ∧ ∀ (ts : Array TypeId) (t : TypeId) (W : World), (Builtin.min_ ts t #[.int .i64 (m : Int), .int .i64 z]).run Try.prog W = .ok (.int .i64 (j : Int)) W := by
  subst hz
  refine ⟨min m k, rfl, by omega, by omega, fun ts t W => ?_⟩
  rw [run_min_int2]
  have e : (if (k : Int) < m then (k : Int) else m) = ((min m k : Nat) : Int) := by split <;> omega
  rw [e]

theorem mark_ne {l : List UInt8} {k : Nat} (hk : k < l.length) (h2 : k < 2) (hne : l[k] ≠ ([73, 80] : List UInt8)[k]'(by simpa using h2)) : l.take 2 ≠ ([73, 80] : List UInt8).take l.length := by
  intro h
  have h' := congrArg (·[k]?) h
  simp only [List.getElem?_take, h2, hk, if_true] at h'
  rw [List.getElem?_eq_getElem hk, List.getElem?_eq_getElem (by simpa using h2)] at h'
  exact hne (Option.some.inj h')

theorem mark_all {l : List UInt8} {k : Nat} (hk : k = min l.length 2) (h : l.take k = ([73, 80] : List UInt8).take k) : l.take 2 = ([73, 80] : List UInt8).take l.length := by
  subst hk
  by_cases h2 : l.length ≤ 2
  · rw [Nat.min_eq_left h2] at h
    rw [← h, List.take_of_length_le h2, List.take_of_length_le (Nat.le_refl _)]
  · rw [Nat.min_eq_right (by omega)] at h
    rw [h, List.take_of_length_le (by simp), List.take_of_length_le (by simp; omega)]

theorem ne_byte {a b : UInt8} (h : ¬ a = b) (z : Int) (hz : (b.toNat : Int) = z) : ¬ (a.toNat : Int) = z := fun e => h (UInt8.toNat_inj.1 (by omega))

set_option maxHeartbeats 1000000 in
set_option maxRecDepth 20000 in
theorem size_any (A : Option Addr) (n c : Nat) (l : List UInt8) (w : World) (hl : l.length = n) (hr : Rd w A l) (hnc : n ≤ c) (hc : c ≤ maxLen) :
    Calls Try.prog 21 #[.slice A n c] w (GotSz w (sizeE l).1 (sizeE l).2) := by
  unfold maxLen at hc
  have HL := Lib.hid hl
  have HS : Hid (sizeE l = _) := Lib.hid (sizeE.eq_1 l)
  clear hl
  obtain ⟨j, HJ, hj1, hj2, hmin⟩ := min_lit n 2 2 rfl
  go_enter Try.func21, Try.ntmps21
  go_wp2_with fail
  go_loopw [9] (fun i wr => ∃ k : Nat, k ≤ j ∧ i = .int .i64 k ∧ l.take k = ([73, 80] : List UInt8).take k ∧ Below w.heap.size w wr) (fun i _ => j - (intOf i).toNat)
  case atStart => exact ⟨0, Nat.zero_le _, rfl, by simp, Below.refl _ _⟩
  case round =>
    clear hmin
    obtain ⟨k, hk, rfl, hp, hbl⟩ := hrel
    have HP := Lib.hid hp
    clear hp
    by_cases hlt : k < j
    · have hk' : k < l.length := by have := HL.out; omega
      obtain ⟨ad, rfl, hcell⟩ := (hr.below hbl).cell hk'
      have hk01 : k = 0 ∨ k = 1 := by omega
      rcases hk01 with rfl | rfl
      · have hcell0 : wr.cell? ad = some (.int .u8 (l[0].toNat : Int)) := by simpa [Addr.add] using hcell
        by_cases hx : l[0] = 73
        · have hb : ((l[0].toNat : Int) != 73) = false := by rw [hx]; rfl
          have hb' : ((l[0].toNat : Int) == 73) = true := by rw [hx]; rfl
          have hb2 : ((l[0].toNat : Int) == ((73 : UInt8).toNat : Int)) = true := by rw [hx]; simp
          have hb3 : (l[0].toNat : Int) = 73 := by rw [hx]; rfl
          have HX := Lib.hid hx
          clear hx
          go_wp2_with fail
          go_quiet (fail)
          go_wp2
          refine ⟨⟨1, by omega, by go_num, ?_, bl_drewN hbl _⟩, by simp [intOf]; omega⟩
          exact take_more HP.out hk' (by simp) HX.out
        · have hb3 : ¬ (l[0].toNat : Int) = 73 := ne_byte hx 73 rfl
          have hb : ((l[0].toNat : Int) != 73) = true := by simpa using hb3
          have hb' : ((l[0].toNat : Int) == 73) = false := by simpa using hb3
          have HX := Lib.hid hx
          clear hx
          go_wp2_with fail
          go_quiet (fail)
          go_wp2
          · go_ret2
            rw [HS.out, if_pos (mark_ne hk' (by omega) HX.out)]
            exact ⟨rfl, bl_drewN hbl _⟩
          · exfalso
            rename_i hh
            exact Bool.noConfusion (hh.symm.trans hb)
      · have hcell0 : wr.cell? ⟨ad.block, ad.off + 1, none⟩ = some (.int .u8 (l[1].toNat : Int)) := by simpa [Addr.add] using hcell
        by_cases hx : l[1] = 80
        · have hb : ((l[1].toNat : Int) != 80) = false := by rw [hx]; rfl
          have hb' : ((l[1].toNat : Int) == 80) = true := by rw [hx]; rfl
          have hb2 : ((l[1].toNat : Int) == ((80 : UInt8).toNat : Int)) = true := by rw [hx]; simp
          have hb3 : (l[1].toNat : Int) = 80 := by rw [hx]; rfl
          have HX := Lib.hid hx
          clear hx
          go_wp2_with fail
          go_quiet (fail)
          go_wp2
          refine ⟨⟨2, by omega, by go_num, ?_, bl_drewN hbl _⟩, by simp [intOf]; omega⟩
          exact take_more HP.out hk' (by simp) HX.out
        · have hb3 : ¬ (l[1].toNat : Int) = 80 := ne_byte hx 80 rfl
          have hb : ((l[1].toNat : Int) != 80) = true := by simpa using hb3
          have hb' : ((l[1].toNat : Int) == 80) = false := by simpa using hb3
          have HX := Lib.hid hx
          clear hx
          go_wp2_with fail
          go_quiet (fail)
          go_wp2
          · go_ret2
            rw [HS.out, if_pos (mark_ne hk' (by omega) HX.out)]
            exact ⟨rfl, bl_drewN hbl _⟩
          · exfalso
            rename_i hh
            exact Bool.noConfusion (hh.symm.trans hb)
    · have hm := mark_all (l := l) (k := k) (by have := HL.out; have := HJ.out; omega) HP.out
      rw [if_neg (by rw [hm]; simp), HL.out] at HS
      clear hm HP
      by_cases h6 : n < 6
      · rw [if_pos h6] at HS
        go_wp2_with fail
        go_ret2
        rw [HS.out]
        exact ⟨rfl, hbl⟩
      · rw [if_neg h6] at HS
        obtain ⟨A', hcut, hr', HL'⟩ := cut_mid A n c 2 4 l wr HL.out (hr.below hbl) (by omega) hnc 2 6 rfl rfl
        have e4 : (l.take (2 + 4)).drop 2 = (l.drop 2).take 4 := by rw [List.drop_take]
        rw [e4] at hr' HL'
        clear hr e4
        have hlt4 := leN_lt ((l.drop 2).take 4)
        rw [HL'.out] at hlt4
        generalize (l.drop 2).take 4 = q at *
        go_wp2_with fail
        refine (number_any A' 4 (c - 2) q _ HL'.out hr' (by omega)).mono ?_
        rintro e w1 ⟨rfl, rfl⟩
        generalize leN q = z at *
        by_cases h5 : 262144 < z
        · rw [if_pos h5] at HS
          go_wp2_with fail
          go_ret2
          rw [HS.out]
          exact ⟨rfl, hbl⟩
        · rw [if_neg h5] at HS
          by_cases h11 : z < 11
          · rw [if_pos h11] at HS
            go_wp2_with fail
            go_ret2
            rw [HS.out]
            exact ⟨rfl, hbl⟩
          · rw [if_neg h11] at HS
            go_wp2_with fail
            go_ret2
            rw [HS.out]
            exact ⟨rfl, hbl⟩

end Go.Proofs.Ytlblcligjelbgaa
