/- Pack of package pack: a contract over the translated program. -/
import Derived.Test.YtlblcligjelbgaaPackB
set_option linter.unusedVariables false
namespace Go.Proofs.Ytlblcligjelbgaa
open Go.RowKit

theorem size_alloc (w : World) (o : Obj) : (w.alloc o).heap.size = w.heap.size + 1 := by simp

theorem RdL.four {w : World} {A B C D : Option Addr} {a b c d a' b' c' d' : Nat} {x y z u : List UInt8} (hx : x.length = a) (hy : y.length = b) (hz : z.length = c) (hu : u.length = d) (h1 : Rd w A x) (h2 : Rd w B y) (h3 : Rd w C z) (h4 : Rd w D u) (t : TypeId) :
    RdL (w.alloc (.cells #[.slice A a a', .slice B b b', .slice C c c', .slice D d d'] t)) (some ⟨w.heap.size, 0, none⟩) [x, y, z, u] := fun _ => by
  subst hx hy hz hu
  refine ⟨_, rfl, fun j hj => ?_⟩
  have hj2 : j = 0 ∨ j = 1 ∨ j = 2 ∨ j = 3 := by simp at hj; omega
  rcases hj2 with rfl | rfl | rfl | rfl
  · exact ⟨A, a', by simp [Addr.add], h1.alloc _⟩
  · exact ⟨B, b', by simp [Addr.add], h2.alloc _⟩
  · exact ⟨C, c', by simp [Addr.add], h3.alloc _⟩
  · exact ⟨D, d', by simp [Addr.add], h4.alloc _⟩

theorem rise_is {A : Option Addr} {n c : Nat} {ss : List Sec} {w : World} {b : Bool} (hl : ss.length = n) (hr : RdS w A ss) (hn : n ≤ maxLen) (h : riseFrom 0 ss = b) :
    Calls Try.prog 28 #[.slice A n c] w (GotBool w b) := h ▸ allRise_any A n c ss w hl hr hn

set_option maxHeartbeats 2000000 in
set_option maxRecDepth 20000 in
theorem pack_any (kind : Int) (A : Option Addr) (n c : Nat) (ss : List Sec) (w : World) (hl : ss.length = n) (hr : RdS w A ss) (hn : n ≤ maxLen) (hd : ∀ s ∈ ss, s.2.length ≤ 150000000000000) :
    Calls Try.prog 12 #[.int .i64 kind, .slice A n c] w (GotBytesE w (packE kind ss).1 (packE kind ss).2) := by
  have HL := Lib.hid hl
  have HD := Lib.hid hd
  have HP : Hid (packE kind ss = _) := Lib.hid (packE.eq_1 kind ss)
  clear hl hd
  have kc := fun (w : World) (C : Array Value) (n c : Nat) => Lib.run_convert_bytes_const (P := Try.prog) w 24 5 C n c Try.underlying24 Try.underlying5
  by_cases h0 : kind < 0
  · have hb : decide (kind < 0) = true := by simp [h0]
    rw [if_pos (.inl h0)] at HP
    go_enter Try.func12, Try.ntmps12
    go_wp2_with fail
    go_ret2
    rw [HP.out]
    exact ⟨_, rfl, Own.nil _ _, Below.refl _ _⟩
  have hb0 : decide (kind < 0) = false := by simp; omega
  by_cases h255 : 255 < kind
  · have hb : decide (255 < kind) = true := by simp [h255]
    rw [if_pos (.inr (.inl h255))] at HP
    go_enter Try.func12, Try.ntmps12
    go_wp2_with fail
    go_ret2
    rw [HP.out]
    exact ⟨_, rfl, Own.nil _ _, Below.refl _ _⟩
  have hb255 : decide (255 < kind) = false := by simp; omega
  rcases hrise : riseFrom 0 ss with _ | _
  · rw [if_pos (.inr (.inr hrise))] at HP
    have HR := Lib.hid hrise
    clear hrise
    go_enter Try.func12, Try.ntmps12
    go_wp2_with fail
    refine (rise_is HL.out hr hn HR.out).mono ?_
    rintro e w1 ⟨rfl, hb1⟩
    go_wp2_with fail
    go_ret2
    rw [HP.out]
    exact ⟨_, rfl, Own.nil _ _, hb1⟩
  have HW := Lib.hid (fun (W : World) (hb : Below w.heap.size w W) => written_any A n c ss W HL.out (hr.below hb) hn HD.out hrise)
  rw [if_neg (by rw [hrise]; simp; omega)] at HP
  have HR := Lib.hid hrise
  clear hrise
  have HE : Hid (wroteE ss = _) := Lib.hid (wroteE.eq_1 ss)
  by_cases hbig : 262144 < 11 + (bodyOf ss).length
  · rw [if_pos hbig] at HP HE
    rw [HE.out] at HW
    go_enter Try.func12, Try.ntmps12
    go_wp2_with fail
    refine (rise_is HL.out hr hn HR.out).mono ?_
    rintro e w1 ⟨rfl, hb1⟩
    go_wp2_with fail
    refine (HW.out _ hb1).mono ?_
    rintro e w2 ⟨v, rfl, _, hb2⟩
    go_wp2_with fail
    go_ret2
    rw [HP.out]
    exact ⟨_, rfl, Own.nil _ _, bl_trans hb1 hb2⟩
  · rw [if_neg hbig] at HP HE
    rw [HE.out] at HW
    obtain ⟨m, rfl⟩ := Int.eq_ofNat_of_zero_le (show 0 ≤ kind by omega)
    go_enter Try.func12, Try.ntmps12
    go_wp2_with fail
    refine (rise_is HL.out hr hn HR.out).mono ?_
    rintro e w1 ⟨rfl, hb1⟩
    go_wp2_with fail
    refine (HW.out _ hb1).mono ?_
    rintro e w2 ⟨v, rfl, ho2, hb2⟩
    obtain ⟨A2, n2, c2, rfl, HL2, hnc2, hc2, hr2⟩ := ho2.form
    have hn2 : 11 + n2 ≤ 262144 := by have := HL2.out; omega
    have hB2 := bl_trans hb1 hb2
    clear HW hr ho2
    go_wp2_with fail
    refine (word_nat (11 + n2) (by omega) _).mono ?_
    rintro e w3 ⟨v3, rfl, ho3, hb3⟩
    obtain ⟨A3, c3, rfl, _, _, hr3⟩ := ho3.shape
    rw [fourN_len]
    have hr2' := hr2.below hb3
    have hB3 := bl_trans hB2 hb3
    clear ho3 hr2
    go_wp2_with fail
    have hkb : Value.int IntKind.u8 (m : Int) = bv (UInt8.ofNat m) := by
      unfold bv
      rw [UInt8.toNat_ofNat']
      congr 1
      omega
    have f1 := (Rd.litF w3 [73, 80] (2, 3)).alloc (.cells #[Value.int IntKind.u8 (m : Int)] 5)
    have f2 := (hr3.alloc (.cells #[Value.int IntKind.u8 73, Value.int IntKind.u8 80] 5 (2, 3))).alloc (.cells #[Value.int IntKind.u8 (m : Int)] 5)
    have f3 := Rd.one (w3.alloc (.cells #[Value.int IntKind.u8 73, Value.int IntKind.u8 80] 5 (2, 3))) _ _ hkb
    have f4 := (hr2'.alloc (.cells #[Value.int IntKind.u8 73, Value.int IntKind.u8 80] 5 (2, 3))).alloc (.cells #[Value.int IntKind.u8 (m : Int)] 5)
    have f5 := bl_alloc (bl_alloc hB3 (.cells #[Value.int IntKind.u8 73, Value.int IntKind.u8 80] 5 (2, 3))) (.cells #[Value.int IntKind.u8 (m : Int)] 5)
    have hj := RdL.four (a' := 2) (b' := c3) (c' := 1) (d' := c2) rfl (fourN_len (11 + n2)) rfl HL2.out f1 f2 f3 f4 24
    have f6 := bl_alloc f5 (.cells #[Value.slice (some { block := w3.heap.size, off := 0 }) 2 2, Value.slice A3 4 c3, Value.slice (some { block := w3.heap.size + 1, off := 0 }) 1 1, Value.slice A2 n2 c2] 24)
    simp only [size_alloc] at hj
    refine (join_any _ 4 4 [[73, 80], fourN (11 + n2), [UInt8.ofNat m], bodyOf ss] _ rfl hj (by simp [maxLen]) (by have := HL2.out; simp [fourN_len]; omega)).mono ?_
    rintro e w4 ⟨v4, rfl, ho4, hb4⟩
    have hin : [[73, 80], fourN (11 + n2), [UInt8.ofNat m], bodyOf ss].flatten = innerE m (bodyOf ss) := by
      unfold innerE
      rw [HL2.out]
      simp
    rw [hin] at ho4
    obtain ⟨A4, n4, c4, rfl, HL4, hnc4, hc4, hr4⟩ := ho4.form
    have hn4 : n4 ≤ 262144 := by have := HL4.out; rw [inner_len, HL2.out] at this; omega
    have hB4 := bl_trans f6 hb4
    clear hj f1 f2 f3 f4 f5 hin ho4 hb4 f6
    go_wp2_with fail
    refine (sealed_any A4 n4 c4 _ _ HL4.out hr4 hnc4 (by omega)).mono ?_
    rintro e w5 ⟨v5, rfl, ho5, hb5⟩
    go_wp2
    go_ret2
    rw [HP.out, Int.toNat_natCast]
    exact ⟨_, rfl, ho5.more hB4.size, bl_trans hB4 hb5⟩

end Go.Proofs.Ytlblcligjelbgaa
