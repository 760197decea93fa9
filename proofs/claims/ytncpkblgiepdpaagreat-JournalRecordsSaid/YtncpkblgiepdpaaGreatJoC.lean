/- What the program's package crc does (On, Of), and a number in four bytes: contracts over the translated program. No condition but that a list can be read. -/
import Derived.Test.YtncpkblgiepdpaaGreatBytes
import Derived.Test.YtncpkblgiepdpaaGreatCrcMathC
import Derived.LoopTactic
import Derived.Deep.QuietTactic
import Derived.BigQuiet
import Derived.Outline
import Derived.Lib.Hide
import Derived.WalkSpells
import Derived.Deep.RegionWith
import Derived.Deep.RegionHeld3
set_option linter.unusedVariables false
set_option linter.unusedSimpArgs false
namespace Go.Proofs.YtncpkblgiepdpaaGreat
open Go.RowKit

theorem ofInt32 (x : BitVec 32) : BitVec.ofInt 32 (x.toNat : Int) = x := by
  rw [BitVec.ofInt_natCast]; simp
theorem xor32 (x y : BitVec 32) : bits .xor .u32 (x.toNat : Int) (y.toNat : Int) = ((x ^^^ y).toNat : Int) := by
  show IntKind.u32.wrap ((BitVec.ofInt 32 (x.toNat : Int) ^^^ BitVec.ofInt 32 (y.toNat : Int)).toNat : Int) = _
  rw [ofInt32, ofInt32, IntWalk.u32_in]
  have := (x ^^^ y).isLt
  omega
theorem and32 (x y : BitVec 32) : bits .and .u32 (x.toNat : Int) (y.toNat : Int) = ((x &&& y).toNat : Int) := by
  show IntKind.u32.wrap ((BitVec.ofInt 32 (x.toNat : Int) &&& BitVec.ofInt 32 (y.toNat : Int)).toNat : Int) = _
  rw [ofInt32, ofInt32, IntWalk.u32_in]
  have := (x &&& y).isLt
  omega
theorem half32 (x : BitVec 32) (n : Nat) : ((x >>> n).toNat : Int) = (x.toNat : Int) / 2 ^ n := by
  rw [BitVec.toNat_ushiftRight, Nat.shiftRight_eq_div_pow]; simp
theorem and1 (x : BitVec 32) : bits .and .u32 (x.toNat : Int) 1 = if x.getLsbD 0 then 1 else 0 := by
  have h := and32 x 1#32
  have e : ((1#32).toNat : Int) = 1 := by decide
  rw [e] at h
  rw [h]
  have h2 : (x &&& 1#32).toNat = x.toNat % 2 := by
    rw [BitVec.toNat_and]
    show x.toNat &&& 1 = _
    exact Nat.and_one_is_mod _
  rw [h2, lsb_mod]
  by_cases hx : x.toNat % 2 = 1
  · simp [hx]
  · have : x.toNat % 2 = 0 := by omega
    simp [this]
theorem fell_one {x : BitVec 32} (h : (bits .and .u32 (x.toNat : Int) 1 == 1) = true) : bits .xor .u32 ((x.toNat : Int) / 2) 3988292384 = ((stp x).toNat : Int) := by
  rw [and1] at h
  have hb : x.getLsbD 0 = true := by
    by_cases hx : x.getLsbD 0 = true
    · exact hx
    · rw [if_neg hx] at h; simp at h
  have e : (x.toNat : Int) / (2 : Int) = ((x >>> 1).toNat : Int) := by rw [half32]; rfl
  have e2 : (3988292384 : Int) = (poly.toNat : Int) := by decide
  rw [e, e2, xor32]
  unfold stp
  rw [if_pos hb]
theorem fell_none {x : BitVec 32} (h : (bits .and .u32 (x.toNat : Int) 1 == 1) = false) : (x.toNat : Int) / 2 = ((stp x).toNat : Int) := by
  rw [and1] at h
  have hb : ¬ x.getLsbD 0 = true := by
    intro hx
    rw [if_pos hx] at h; simp at h
  unfold stp
  rw [if_neg hb, BitVec.xor_zero, half32]
  rfl
theorem byte32 (c : UInt8) : (c.toNat : Int) % 4294967296 = ((BitVec.ofNat 32 c.toNat).toNat : Int) := by
  rw [BitVec.toNat_ofNat]
  omega
theorem steps_more {k : Nat} {x y : BitVec 32} (hk : k < 8) (h : stpN (8 - k) x = y) : stpN (8 - (k + 1)) (stp x) = y := by
  have e : 8 - k = (8 - (k + 1)) + 1 := by omega
  rw [e] at h
  exact h
set_option maxHeartbeats 400000 in
set_option maxRecDepth 20000 in
theorem fallen_any (c : UInt8) (w : World) : Calls Tryz.prog 140 #[.int .u8 (c.toNat : Int), .int .u32 3988292384] w fun e w' => e = .returned (.int .u32 ((stpN 8 (BitVec.ofNat 32 c.toNat)).toNat : Int)) ∧ w = w' := by
  go_enter Tryz.func140, Tryz.ntmps140
  go_wp2
  go_loop [5, 9] (fun s i => ∃ (k : Nat) (x : BitVec 32), k ≤ 8 ∧ i = .int .i64 k ∧ s = .int .u32 (x.toNat : Int) ∧ Hid (stpN (8 - k) x = stpN 8 (BitVec.ofNat 32 c.toNat))) (fun _ i => 8 - (intOf i).toNat)
  case atStart => exact ⟨0, BitVec.ofNat 32 c.toNat, by omega, rfl, by rw [byte32], rfl⟩
  case round =>
    obtain ⟨k, x, hk, rfl, rfl, HX⟩ := hrel
    by_cases hlt : k < 8
    · go_wp2
      · refine ⟨⟨k + 1, stp x, by omega, by go_num, ?_, steps_more hlt HX.out⟩, by simp [intOf]; omega⟩
        rw [fell_one (by assumption)]
      · refine ⟨⟨k + 1, stp x, by omega, by go_num, ?_, steps_more hlt HX.out⟩, by simp [intOf]; omega⟩
        rw [fell_none (by assumption)]
    · obtain rfl : k = 8 := by omega
      go_wp2
      go_ret
      have e := HX.out
      exact ⟨by rw [← e]; rfl, rfl⟩
def tab0 : Array Value := Array.replicate 256 (.int .u32 0)
theorem zero_tab (w : World) : (zeroValue 166).run Tryz.prog w = .ok (.agg tab0) w := by kernel_rfl
/-- What comes of a byte that falls out. -/
def tabv (c : Nat) : BitVec 32 := stpN 8 (BitVec.ofNat 32 c)
/-- What the closure keeps: of each byte nothing yet, or what comes of it; and the polynomial. -/
def KeptC (w : World) (b p : Nat) : Prop :=
  (∃ cs : Array Value, w.heap[b]? = some (.cells cs 166 (0, 0)) ∧ cs.size = 256 ∧ ∀ j, j < 256 → ∃ x : BitVec 32, cs[j]? = some (.int .u32 (x.toNat : Int)) ∧ (x = 0#32 ∨ x = tabv j)) ∧
    w.heap[p]? = some (.cells #[.int .u32 3988292384] 67 (0, 0)) ∧ b ≠ p
set_option maxHeartbeats 400000 in
set_option maxRecDepth 20000 in
theorem teller_any (w : World) : Calls Tryz.prog 124 #[.int .u32 3988292384] w fun e w' =>
    e = .returned (.func (.func 139) #[] #[.pointer (some ⟨w.heap.size + 1, 0, none⟩), .pointer (some ⟨w.heap.size, 0, none⟩)]) ∧ w' = (w.alloc (.cells #[.int .u32 3988292384] 67)).alloc (.cells tab0 166) := by
  have hz := zero_tab
  have hmf : ∀ (fn : Fn) (first cap : Array Value) (w : World), (Instr.makeFunc fn first cap).run Tryz.prog w = .ok (.func fn first cap) w := fun _ _ _ _ => rfl
  go_enter Tryz.func124, Tryz.ntmps124
  go_wp2
  go_ret
  exact ⟨rfl, rfl⟩
theorem KeptC.stored {w : World} {b p : Nat} (h : KeptC w b p) (c : Nat) : KeptC (w.setCell ⟨b, c, none⟩ (.int .u32 ((tabv c).toNat : Int))) b p := by
  obtain ⟨⟨cs, h1, h2, h3⟩, h4, h5⟩ := h
  refine ⟨⟨_, heap_setCell_same w b c cs _ _ h1, by simpa using h2, fun j hj => ?_⟩, ?_, h5⟩
  · by_cases e : c = j
    · subst e
      exact ⟨tabv c, by rw [Array.getElem?_setIfInBounds_self_of_lt (by omega)], .inr rfl⟩
    · obtain ⟨x, g1, g2⟩ := h3 j hj
      exact ⟨x, by rw [Array.getElem?_setIfInBounds_ne e]; exact g1, g2⟩
  · rw [Below.heap_setCell _ _ _ _ (fun e => h5 e.symm)]
    exact h4
theorem KeptC.start (w : World) : KeptC ((w.alloc (.cells #[.int .u32 3988292384] 67)).alloc (.cells tab0 166)) (w.heap.size + 1) w.heap.size := by
  refine ⟨⟨tab0, ?_, by decide +kernel, fun j hj => ⟨0#32, ?_, .inl rfl⟩⟩, ?_, by omega⟩
  · have := heap_alloc_new (w.alloc (.cells #[.int .u32 3988292384] 67)) (.cells tab0 166)
    simpa using this
  · unfold tab0
    rw [Array.getElem?_replicate, if_pos hj]
    rfl
  · rw [Below.heap_alloc _ _ _ (by simp)]
    exact heap_alloc_new w _
/-- A number of 32 bits; the kept ones grew. -/
def ToldC (w : World) (b p : Nat) (x : BitVec 32) (e : Ending) (w' : World) : Prop := e = .returned (.int .u32 (x.toNat : Int)) ∧ KeptC w' b p ∧ ∀ B, B ≤ b → Below B w w'
set_option maxHeartbeats 400000 in
set_option maxRecDepth 20000 in
theorem told_any (c : UInt8) (b p : Nat) (w : World) (hK : KeptC w b p) :
    Calls Tryz.prog 139 #[.int .u8 (c.toNat : Int), .pointer (some ⟨b, 0, none⟩), .pointer (some ⟨p, 0, none⟩)] w (ToldC w b p (tabv c.toNat)) := by
  have hc256 : c.toNat < 256 := c.toNat_lt
  have HK := Lib.hid hK
  obtain ⟨⟨cs, h1, h2, h3⟩, h4, h5⟩ := hK
  obtain ⟨x, g1, g2⟩ := h3 _ hc256
  have hc : w.cell? ⟨b, c.toNat, none⟩ = some (.int .u32 (x.toNat : Int)) := by rw [cell_of_row w b _ cs _ _ h1]; exact g1
  have hf : w.frozen? ⟨b, c.toNat, none⟩ = false := by simp [World.frozen?, h1]
  have hp : w.cell? ⟨p, 0, none⟩ = some (.int .u32 3988292384) := by rw [cell_of_row w p _ _ _ _ h4]; rfl
  have G2 := Lib.hid g2
  clear h1 h2 h3 h4 h5 g1 g2
  by_cases hx : x = 0#32
  · subst hx
    go_enter Tryz.func139, Tryz.ntmps139
    go_wp2_with (go_at_call 140; refine (fallen_any _ _).mono ?_; rintro e w' ⟨rfl, rfl⟩)
    go_ret
    exact ⟨rfl, HK.out.stored c.toNat, fun B hB => (Below.refl _ _).setCell hB _⟩
  · have hb : ((x.toNat : Int) == 0) = false := by
      simp only [beq_eq_false_iff_ne, ne_eq]
      intro h
      exact hx (BitVec.eq_of_toNat_eq (by simp; omega))
    have hx2 : x = tabv c.toNat := by
      rcases G2.out with h | h
      · exact absurd h hx
      · exact h
    have HX := Lib.hid hx2
    clear hx hx2
    go_enter Tryz.func139, Tryz.ntmps139
    go_wp2_with fail
    go_ret
    exact ⟨by rw [← HX.out]; rfl, HK.out, fun B hB => Below.refl _ _⟩
theorem not32 (x : BitVec 32) : bits .xor .u32 IntKind.u32.max (x.toNat : Int) = ((~~~ x).toNat : Int) := by
  have e : IntKind.u32.max = ((BitVec.allOnes 32).toNat : Int) := by decide
  rw [e, xor32, BitVec.allOnes_xor]
/-- The lowest byte. -/
def lowB (x : BitVec 32) : UInt8 := UInt8.ofNat (x.toNat % 256)
theorem lowB_nat (x : BitVec 32) : (lowB x).toNat = x.toNat % 256 := by
  unfold lowB
  rw [UInt8.toNat_ofNat']
  omega
theorem xor8 (a b : UInt8) : bits .xor .u8 (a.toNat : Int) (b.toNat : Int) = ((a ^^^ b).toNat : Int) := by
  have e : ∀ c : UInt8, (BitVec.ofInt 8 (c.toNat : Int)).toNat = c.toNat := fun c => by
    rw [BitVec.ofInt_natCast, BitVec.toNat_ofNat]
    exact Nat.mod_eq_of_lt c.toNat_lt
  show IntKind.u8.wrap ((BitVec.ofInt 8 (a.toNat : Int) ^^^ BitVec.ofInt 8 (b.toNat : Int)).toNat : Int) = _
  rw [BitVec.toNat_xor, e, e, ← UInt8.toNat_xor, IntKind.wrap_u8]
  have := (a ^^^ b).toNat_lt
  omega
theorem xorlow (x : BitVec 32) (c : UInt8) : bits .xor .u8 ((x.toNat : Int) % 256) (c.toNat : Int) = ((lowB x ^^^ c).toNat : Int) := by
  rw [← xor8, lowB_nat]
  rfl
theorem low_bit (x : BitVec 32) (i : Nat) (hi : i < 8) : (BitVec.ofNat 32 (lowB x).toNat).getLsbD i = x.getLsbD i := by
  rw [lowB_nat, BitVec.getLsbD_ofNat, show (256 : Nat) = 2 ^ 8 from rfl, Nat.testBit_mod_two_pow]
  have e : decide (i < 32) = true := by simp; omega
  have e2 : decide (i < 8) = true := by simp; omega
  rw [e, e2, BitVec.getLsbD]
  simp
theorem take_split (x : BitVec 32) (c : UInt8) : takeB x c = x >>> 8 ^^^ tabv (lowB x ^^^ c).toNat := by
  unfold takeB tabv
  have e : x ^^^ BitVec.ofNat 32 c.toNat = (x ^^^ BitVec.ofNat 32 (lowB x).toNat) ^^^ BitVec.ofNat 32 (lowB x ^^^ c).toNat := by
    rw [ofNat_xor, ← BitVec.xor_assoc, BitVec.xor_assoc x, BitVec.xor_self, BitVec.xor_zero]
  rw [e, stpN_xor, stpN_low 8 _ (fun i hi => by rw [BitVec.getLsbD_xor, low_bit x i hi]; simp)]
  congr 1
  apply BitVec.eq_of_getLsbD_eq
  intro i hi
  rw [BitVec.getLsbD_ushiftRight, BitVec.getLsbD_ushiftRight, BitVec.getLsbD_xor, byte_bit _ _ (by omega)]
  simp
theorem step_told (x : BitVec 32) (c : UInt8) : bits .xor .u32 ((x.toNat : Int) / 256) ((tabv (lowB x ^^^ c).toNat).toNat : Int) = ((takeB x c).toNat : Int) := by
  have e : (x.toNat : Int) / (256 : Int) = ((x >>> 8).toNat : Int) := by rw [half32]; rfl
  rw [e, xor32, take_split]
theorem told_low (x : BitVec 32) (c : UInt8) (b p : Nat) (w : World) (hK : KeptC w b p) :
    Calls Tryz.prog 139 #[.int .u8 (bits .xor .u8 ((x.toNat : Int) % 256) (c.toNat : Int)), .pointer (some ⟨b, 0, none⟩), .pointer (some ⟨p, 0, none⟩)] w (ToldC w b p (tabv (lowB x ^^^ c).toNat)) := by
  rw [xorlow]
  exact told_any _ b p w hK
theorem takeBs_more {s x : BitVec 32} {l : List UInt8} {k : Nat} (h : takeBs s (l.take k) = x) (hk : k < l.length) : takeBs s (l.take (k + 1)) = takeB x l[k] := by
  rw [List.take_succ_eq_append_getElem hk, takeBs_append, h]
  rfl
/-- A number of 32 bits, and nothing that was there has turned. -/
def Got32 (w : World) (x : BitVec 32) (e : Ending) (w' : World) : Prop := e = .returned (.int .u32 (x.toNat : Int)) ∧ Below w.heap.size w w'
/-- A number of 32 bits, and a world that has not turned. -/
def Same32 (w : World) (x : BitVec 32) (e : Ending) (w' : World) : Prop := e = .returned (.int .u32 (x.toNat : Int)) ∧ w = w'
set_option maxHeartbeats 400000 in
set_option maxRecDepth 20000 in
theorem on_any (s : BitVec 32) (A : Option Addr) (n c : Nat) (l : List UInt8) (w : World) (hl : l.length = n) (hr : Rd w A l) (hn : n ≤ maxLen) :
    Calls Tryz.prog 76 #[.int .u32 (s.toNat : Int), .slice A n c] w (Got32 w (onE s l)) := by
  unfold maxLen at hn
  have HL := Lib.hid hl
  clear hl
  go_enter Tryz.func76, Tryz.ntmps76
  go_wp2_with (go_at_call 124; refine (teller_any _).mono ?_; rintro e w1 ⟨rfl, rfl⟩)
  go_loopw [0, 13] (fun s' i wr => ∃ (k : Nat) (x : BitVec 32), k ≤ n ∧ i = .int .i64 k ∧ s' = .int .u32 (x.toNat : Int) ∧ Hid (takeBs (~~~ s) (l.take k) = x) ∧ KeptC wr (w.heap.size + 1) w.heap.size ∧ Below w.heap.size w wr) (fun _ i _ => n - (intOf i).toNat)
  case atStart => exact ⟨0, ~~~ s, Nat.zero_le _, rfl, by rw [not32], rfl, KeptC.start w, bl_alloc (bl_alloc (Below.refl _ _) _) _⟩
  case round =>
    obtain ⟨k, x, hk, rfl, rfl, HX, hK, hB⟩ := hrel
    by_cases hlt : k < n
    · have hk' : k < l.length := by have := HL.out; omega
      obtain ⟨ad, rfl, hc⟩ := (hr.below hB).cell hk'
      go_wp2_with fail
      refine (told_low _ _ _ _ _ hK).mono ?_
      rintro e w1 ⟨rfl, hK1, hB1⟩
      clear hr
      go_wp2
      refine ⟨⟨k + 1, takeB x l[k], by omega, by go_num, by rw [← UInt8.toNat_xor, step_told], takeBs_more HX.out hk', hK1, hB.trans (hB1 _ (by omega))⟩, by simp [intOf]; omega⟩
    · go_wp2
      go_ret
      refine ⟨?_, hB⟩
      have h := HX.out
      rw [List.take_of_length_le (by have := HL.out; omega)] at h
      unfold onE
      rw [h, ← not32]
      rfl
set_option maxHeartbeats 400000 in
set_option maxRecDepth 20000 in
theorem of_any (A : Option Addr) (n c : Nat) (l : List UInt8) (w : World) (hl : l.length = n) (hr : Rd w A l) (hn : n ≤ maxLen) :
    Calls Tryz.prog 123 #[.slice A n c] w (Got32 w (ofE l)) := by
  have h := on_any 0#32 A n c l w hl hr hn
  have H := Lib.hid h
  clear h hl hr
  go_enter Tryz.func123, Tryz.ntmps123
  go_wp2_with fail
  refine (H.out).mono ?_
  rintro e w1 ⟨rfl, hb⟩
  go_wp2
  go_ret
  exact ⟨rfl, hb⟩
/- The document's own answer -/

theorem xorbyte (x : BitVec 32) (c : UInt8) : bits .xor .u32 (x.toNat : Int) ((c.toNat : Int) % 4294967296) = ((x ^^^ BitVec.ofNat 32 c.toNat).toNat : Int) := by
  rw [byte32, xor32]
/-- Bytes that a literal laid down, whatever its mark. -/
theorem Rd.litF (w : World) (l : List UInt8) (fr : Nat × Nat) : Rd (w.alloc (.cells (l.map bv).toArray 5 fr)) (some ⟨w.heap.size, 0, none⟩) l := fun h => by
  refine ⟨_, rfl, fun j hj => ?_⟩
  have e : (⟨w.heap.size, 0, none⟩ : Addr).add j = ⟨w.heap.size, j, none⟩ := by unfold Addr.add; split <;> simp_all
  rw [e, cell_of_row _ _ j (l.map bv).toArray 5 fr (heap_alloc_new w _)]
  simp [hj]
/-- A number's bytes, the lowest first. -/
def fourE (x : BitVec 32) : List UInt8 := [lowB x, lowB (x >>> 8), lowB (x >>> 16), lowB (x >>> 24)]
theorem split8 (x : BitVec 32) : BitVec.ofNat 32 (lowB x).toNat ^^^ (x >>> 8) <<< 8 = x := by
  apply BitVec.eq_of_getLsbD_eq
  intro i hi
  rw [BitVec.getLsbD_xor, shl8_bit]
  rcases Nat.lt_or_ge i 8 with h | h
  · rw [low_bit x i h]
    simp [h]
  · rw [byte_bit _ _ h, BitVec.getLsbD_ushiftRight, Nat.add_sub_cancel' h]
    have e1 : decide (i < 32) = true := by simp [hi]
    have e2 : decide (i < 8) = false := by simp; omega
    rw [e1, e2]
    simp
theorem leVal_four (x : BitVec 32) : leVal (fourE x) = x := by
  have h0 : x >>> 32 = 0#32 := by
    apply BitVec.eq_of_getLsbD_eq
    intro i hi
    rw [BitVec.getLsbD_ushiftRight, BitVec.getLsbD_of_ge _ _ (by omega)]
    simp
  have s1 := split8 x
  have s2 := split8 (x >>> 8)
  have s3 := split8 (x >>> 16)
  have s4 := split8 (x >>> 24)
  rw [← BitVec.shiftRight_add] at s2 s3 s4
  rw [h0] at s4
  unfold fourE
  simp only [leVal]
  rw [s4, s3, s2, s1]
theorem four_inj {x y : BitVec 32} (h : fourE x = fourE y) : x = y := by rw [← leVal_four x, h, leVal_four]
theorem bv_low (x : BitVec 32) : Value.int .u8 ((x.toNat : Int) % 256) = bv (lowB x) := by
  unfold bv
  rw [lowB_nat]
  rfl
theorem bv_mid (x : BitVec 32) (k n : Nat) (h : 2 ^ k = n) : Value.int .u8 ((x.toNat : Int) / n % 256) = bv (lowB (x >>> k)) := by
  rw [← bv_low, half32, ← h]
  simp
theorem bv_top (x : BitVec 32) : Value.int .u8 ((x.toNat : Int) / 16777216) = bv (lowB (x >>> 24)) := by
  rw [← bv_low, half32]
  have := x.isLt
  have e : (x.toNat : Int) / 16777216 = (x.toNat : Int) / 2 ^ 24 % 256 := by omega
  rw [e]
end Go.Proofs.YtncpkblgiepdpaaGreat
