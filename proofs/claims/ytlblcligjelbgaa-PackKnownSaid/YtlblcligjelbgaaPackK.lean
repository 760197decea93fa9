/- What PackKnown needs: 'wrong'; sections that a literal laid; append onto bytes that have no room. -/
import Derived.Test.YtlblcligjelbgaaPackI
import Derived.ArgAppend
set_option linter.unusedVariables false
namespace Go.Proofs.Ytlblcligjelbgaa
open Go.RowKit

theorem RdS.one {w : World} {t : Int} {A : Option Addr} {n c : Nat} {l : List UInt8} (hl : l.length = n) (hr : Rd w A l) (hnc : n ≤ c) (hc : c ≤ maxLen) :
    RdS (w.alloc (.cells #[.int .i64 t, .slice A n c] 41)) (some ⟨w.heap.size, 0, none⟩) [(t, l)] := fun _ => by
  subst hl
  refine ⟨_, rfl, fun j hj => ?_⟩
  obtain rfl : j = 0 := by simp at hj; omega
  exact ⟨by simp [Addr.add], A, c, by simp [Addr.add], hnc, hc, hr.alloc _⟩
theorem RdS.two {w : World} {t t' : Int} {A A' : Option Addr} {n c n' c' : Nat} {l l' : List UInt8} (hl : l.length = n) (hl' : l'.length = n') (hr : Rd w A l) (hr' : Rd w A' l') (hnc : n ≤ c) (hc : c ≤ maxLen) (hnc' : n' ≤ c') (hc' : c' ≤ maxLen) :
    RdS (w.alloc (.cells #[.int .i64 t, .slice A n c, .int .i64 t', .slice A' n' c'] 41)) (some ⟨w.heap.size, 0, none⟩) [(t, l), (t', l')] := fun _ => by
  subst hl hl'
  refine ⟨_, rfl, fun j hj => ?_⟩
  have hj2 : j = 0 ∨ j = 1 := by simp at hj; omega
  rcases hj2 with rfl | rfl
  · exact ⟨by simp [Addr.add], A, c, by simp [Addr.add], hnc, hc, hr.alloc _⟩
  · exact ⟨by simp [Addr.add], A', c', by simp [Addr.add], hnc', hc', hr'.alloc _⟩
theorem RdS.nil (w : World) (A : Option Addr) : RdS w A [] := fun h => absurd h (by simp)

/-- append onto a slice that has no room: new memory. -/
theorem wpList_append_full {ops : Array Oper} {rest : List Oper} {o : Oper} {a : Act} {Q : Exit → Act → World → Prop} (w : World)
    (hg : o.guard = none) (s x : Operand) (hop : o.op = Op.call { callee := Callee.builtin Builtin.append, args := #[s, x], argTypes := #[24, 24] })
    (A : Option Addr) (n : Nat) (l : List UInt8) (hs : a.eval s = .slice A n n) (hl : l.length = n) (hr : Rd w A l)
    (A' : Option Addr) (m c : Nat) (l' : List UInt8) (hx : a.eval x = .slice A' m c) (hl' : l'.length = m) (hr' : Rd w A' l') (hm : 0 < m) (hb : n + m ≤ 140737488355328)
    (hK : ∀ v' w', Own w' w.heap.size v' (l ++ l') → w.grownBy w' none → wpList Try.prog ops Q rest (a.put o.dst v') w') :
    wpList Try.prog ops Q (o :: rest) a w := by
  obtain ⟨i, hi, hz, hs1, hb1⟩ := info_parts info_u8
  obtain ⟨ad, rfl, hc⟩ := hr' (by omega)
  refine wpList_append_grows w hg s x 24 hop 5 i (.int .u8 0) 1 1 Try.underlying24 hi hz hs1 hb1 rfl (by omega) A n n (l.map bv) hs ?_ (by simp [hl]) ?_ ad m c (l'.map bv) hx (by simp [hl']) ?_ (bv_one l') (by omega) (by simp only [maxLen]; omega) (by omega) ?_
  · rintro rfl
    by_cases h0 : 0 < l.length
    · obtain ⟨_, h, _⟩ := hr h0
      cases h
    · omega
  · rintro b rfl j u hu
    rw [List.getElem?_map] at hu
    obtain ⟨y, hy, rfl⟩ := Option.map_eq_some_iff.1 hu
    obtain ⟨hj, rfl⟩ := List.getElem?_eq_some_iff.1 hy
    obtain ⟨b', e, hcc⟩ := hr (by omega)
    cases e
    exact hcc j hj
  · intro j u hu
    rw [List.getElem?_map] at hu
    obtain ⟨y, hy, rfl⟩ := Option.map_eq_some_iff.1 hu
    obtain ⟨hj, rfl⟩ := List.getElem?_eq_some_iff.1 hy
    exact hc j hj
  · intro v' w' ho hgr
    refine hK v' w' ?_ hgr
    unfold Own
    rw [List.length_append, List.map_append, hl, hl']
    exact ho

/-- A row of noughts. -/
def nulls (n : Nat) : Array Value := ((List.replicate n (0 : UInt8)).map bv).toArray
theorem nulls_made (n : Nat) : madeCells #[Value.int .u8 0] n = nulls n := by
  unfold madeCells nulls
  apply Array.ext
  · simp
  · intro i h1 h2
    simp [Nat.mod_one, bv]
/-- 'make([]byte, n)'. -/
theorem make_bytes (n : Nat) (z : Int) (hz : (n : Int) = z) (hn : n ≤ 1000000) (W : World) :
    (Instr.makeSlice 24 (.int .i64 z) (.int .i64 z)).run Try.prog W = .ok (.slice (some ⟨W.heap.size, 0, none⟩) n n) (W.alloc (.cells (nulls n) 5)) := by
  subst hz
  obtain ⟨i, hi, hz, hs, hb⟩ := info_parts info_u8
  rw [run_make (P := Try.prog) W 24 5 i (.int .u8 0) Try.underlying24 hi hz .i64 .i64 n n (by omega) (Int.le_refl _) (by rw [hb]; omega) (by omega), hs]
  have e : (Value.int .u8 0).cells = #[Value.int .u8 0] := rfl
  rw [e, Int.toNat_natCast, Nat.mul_one, nulls_made]
theorem rd_nulls (W : World) (n : Nat) : Rd (W.alloc (.cells (nulls n) 5)) (some ⟨W.heap.size, 0, none⟩) (List.replicate n 0) := Rd.litF W _ (0, 0)

theorem unpack_er {A : Option Addr} {n c : Nat} {l : List UInt8} {w : World} {er : Nat} (hl : l.length = n) (hr : Rd w A l) (hnc : n ≤ c) (hc : c ≤ maxLen) (h : (unpackE l).2.2 = er) :
    Calls Try.prog 23 #[.slice A n c] w fun e w' => ∃ k v, e = .returned (.tuple #[.int .i64 k, v, .int .i64 (er : Int)]) ∧ Below w.heap.size w w' := by
  subst h
  refine (unpack_any A n c l w hl hr hnc hc).mono ?_
  rintro e w' ⟨v, rs, rfl, _, _, hb⟩
  exact ⟨_, v, rfl, hb⟩

set_option maxHeartbeats 1000000 in
set_option maxRecDepth 20000 in
theorem wrong_any (A : Option Addr) (n c : Nat) (l : List UInt8) (er : Nat) (t : Bool) (w : World) (hl : l.length = n) (hr : Rd w A l) (hn : n ≤ 200) (he : (unpackE (sealE (innerE 3 l))).2.2 = er) (ht : ((er : Int) == 4) = t) :
    Calls Try.prog 27 #[.slice A n c] w (GotBool w t) := by
  have HL := Lib.hid hl
  have HE := Lib.hid he
  clear hl he
  have hc1 : Value.int IntKind.u8 (11 + (n : Int)) = bv (UInt8.ofNat (11 + n)) := by
    unfold bv
    rw [UInt8.toNat_ofNat']
    congr 1
    omega
  have hO := Own.lit (w := w) w.heap.size [73, 80, UInt8.ofNat (11 + n), 0, 0, 0, 3] (Nat.le_refl _) (by simp [maxLen])
  have hA : (([73, 80, UInt8.ofNat (11 + n), 0, 0, 0, 3] : List UInt8).map bv).toArray = #[Value.int .u8 73, Value.int .u8 80, Value.int .u8 (11 + (n : Int)), Value.int .u8 0, Value.int .u8 0, Value.int .u8 0, Value.int .u8 3] := by
    rw [hc1]; rfl
  rw [hA] at hO
  have hin : Hid (73 :: 80 :: UInt8.ofNat (11 + n) :: 0 :: 0 :: 0 :: 3 :: l = innerE 3 l) := by
    unfold Hid innerE
    rw [HL.out]
    have : fourN (11 + n) = [UInt8.ofNat (11 + n), 0, 0, 0] := by
      have h := four_leN (l := [UInt8.ofNat (11 + n), 0, 0, 0]) rfl
      have e : leN [UInt8.ofNat (11 + n), 0, 0, 0] = 11 + n := by
        simp only [leN, UInt8.toNat_ofNat']
        simp
        omega
      rw [e] at h
      exact h
    rw [this]
    rfl
  clear hA hc1
  generalize UInt8.ofNat (11 + n) = q at *
  go_enter Try.func27, Try.ntmps27
  go_wp2_with (at_builtin; refine wpList_append_bytes _ rfl _ _ rfl w.heap.size _ [73, 80, q, 0, 0, 0, 3] rfl hO A n c l rfl HL.out (hr.alloc _) (by have := HL.out; simp; omega) (by simp) ?_)
  intro v1 w1 ho1 hg1 _
  rw [hin.out] at ho1
  have hB1 : Below w.heap.size w w1 := bl_grown (bl_alloc (Below.refl _ _) _) hg1 (fun k hk => (hO.lt k hk).1)
  obtain ⟨A1, n1, c1, rfl, HL1, hnc1, hc1, hr1⟩ := ho1.form
  have hn1 : n1 ≤ 300 := by have := HL1.out; rw [inner_len, HL.out] at this; omega
  clear hg1 hO hin
  go_wp2_with fail
  refine (of_any A1 n1 c1 _ _ HL1.out hr1 (by simp only [maxLen]; omega)).mono ?_
  rintro e w2 ⟨rfl, g2⟩
  have ho2 := ho1.below g2
  have hB2 := bl_trans hB1 g2
  have hs2 := hB2.size
  generalize hx : ofE (innerE 3 l) = x at *
  have HX := Lib.hid hx
  clear hx ho1 hr1 g2 hB1
  have h4 : Rd (w2.alloc (.cells #[Value.int .u8 ((x.toNat : Int) % 256), Value.int .u8 ((x.toNat : Int) / 256 % 256), Value.int .u8 ((x.toNat : Int) / 65536 % 256), Value.int .u8 ((x.toNat : Int) / 16777216)] 5)) (some ⟨w2.heap.size, 0, none⟩) (fourE x) := by
    have h := Rd.litF w2 (fourE x) (0, 0)
    have e : ((fourE x).map bv).toArray = #[Value.int .u8 ((x.toNat : Int) % 256), Value.int .u8 ((x.toNat : Int) / 256 % 256), Value.int .u8 ((x.toNat : Int) / 65536 % 256), Value.int .u8 ((x.toNat : Int) / 16777216)] := by
      have e1 := bv_mid x 8 256 rfl
      have e2 := bv_mid x 16 65536 rfl
      have e3 := bv_top x
      unfold fourE
      simp only [List.map, ← e3, ← bv_low x]
      rw [← e1, ← e2]
      rfl
    rw [e] at h
    exact h
  go_wp2_with (at_builtin; refine wpList_append_bytes _ rfl _ _ rfl w.heap.size _ (innerE 3 l) rfl (ho2.alloc _) _ 4 4 (fourE x) rfl rfl h4 (by have := HL1.out; rw [fourE_len]; omega) (by simp; omega) ?_)
  intro v3 w3 ho3 hg3 _
  have hse : innerE 3 l ++ fourE x = sealE (innerE 3 l) := by unfold sealE; rw [HX.out]
  rw [hse] at ho3
  have hB3 : Below w.heap.size w w3 := bl_grown (bl_alloc hB2 _) hg3 (fun k hk => (ho2.lt k hk).1)
  obtain ⟨A3, n3, c3, rfl, HL3, hnc3, hc3, hr3⟩ := ho3.form
  clear hg3 h4 ho2 ho3 hse
  go_wp2_with fail
  refine (unpack_er HL3.out hr3 hnc3 hc3 HE.out).mono ?_
  rintro e w4 ⟨k4, v4, rfl, g4⟩
  go_wp2_with fail
  go_ret
  refine ⟨?_, bl_trans hB3 g4⟩
  rw [← ht]
  rfl

end Go.Proofs.Ytlblcligjelbgaa
