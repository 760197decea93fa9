/- What 'spoil' of the statements and the document's own Num and TakeNum do: contracts over the translated program. -/
import Derived.Test.YtlblcligjelbgaaWalkC
import Derived.Test.YtlblcligjelbgaaMathB
set_option linter.unusedVariables false
namespace Go.Proofs.Ytlblcligjelbgaa
open Go.RowKit

theorem Own.head {w : World} {base : Nat} {A : Option Addr} {n c : Nat} {l : List UInt8} (h : Own w base (.slice A n c) l) (hn : 0 < n) : l.length = n ∧ ∃ g, A = some ⟨g, 0, none⟩ ∧ base ≤ g ∧ g < w.heap.size ∧ n ≤ c ∧ c ≤ maxLen := by
  rcases h.2 with ⟨h1, h2⟩ | ⟨g, cap, cur, hv, hb, hg, hnc, hcm, _⟩
  · cases h1; omega
  · cases hv
    exact ⟨rfl, g, rfl, hb, (Array.getElem?_eq_some_iff.1 hg).1, hnc, hcm⟩
theorem Own.len {w : World} {base : Nat} {A : Option Addr} {n c : Nat} {l : List UInt8} (h : Own w base (.slice A n c) l) : l.length = n := by
  rcases h.2 with ⟨h1, h2⟩ | ⟨g, cap, cur, hv, _⟩
  · cases h1; omega
  · cases hv; rfl
theorem Own.cellAt {w : World} {base g n c : Nat} {l : List UInt8} (h : Own w base (.slice (some ⟨g, 0, none⟩) n c) l) {k : Nat} (hk : k < l.length) : w.cell? ⟨g, k, none⟩ = some (.int .u8 (l[k].toNat : Int)) := by
  obtain rfl := h.len
  have h1 := World.ownsRow.cellAt h k (by omega)
  rw [h1]
  simp [hk, bv]
theorem Own.frozenAt {w : World} {base g n c : Nat} {l : List UInt8} (h : Own w base (.slice (some ⟨g, 0, none⟩) n c) l) (k : Nat) : w.frozen? ⟨g, k, none⟩ = false := by
  obtain rfl := h.len
  exact World.ownsRow.frozenAt h k
theorem Own.stored {w : World} {base g n c : Nat} {l : List UInt8} (h : Own w base (.slice (some ⟨g, 0, none⟩) n c) l) (k : Nat) (b : UInt8) (u : Value) (hu : u = bv b) :
    Own (w.setCell ⟨g, k, none⟩ u) base (.slice (some ⟨g, 0, none⟩) n c) (l.set k b) ∧ w.grownBy (w.setCell ⟨g, k, none⟩ u) (some g) := by
  obtain rfl := h.len
  subst hu
  have h1 := World.ownsRow.stored h k (bv b)
  refine ⟨?_, h1.2⟩
  unfold Own
  rw [List.length_set, List.map_set]
  exact h1.1

/-- Any number's cell of a byte is some byte's. -/
theorem u8_of {z : Int} (h0 : 0 ≤ z) (h1 : z < 256) : Value.int .u8 z = bv (UInt8.ofNat z.toNat) := by
  unfold bv
  rw [UInt8.toNat_ofNat', Nat.mod_eq_of_lt (by omega), Int.toNat_of_nonneg h0]

theorem grown_trans {a b c : World} {row : Option Nat} (h : a.grownBy b row) (k : b.grownBy c row) : a.grownBy c row :=
  ⟨k.os.trans h.os, k.tape.trans h.tape, k.output.trans h.output, Nat.le_trans h.size k.size, fun i hi hne => (k.block i (Nat.lt_of_lt_of_le hi h.size) hne).trans (h.block i hi hne)⟩

/-- Bytes have been written over; nothing else has turned. -/
def Spoilt (w : World) (v : Value) (e : Ending) (w' : World) : Prop := e = .returned (.tuple #[]) ∧ w.grownBy w' v.ownBlock

set_option maxHeartbeats 400000 in
set_option maxRecDepth 20000 in
theorem spoil_any (A : Option Addr) (n c base : Nat) (l : List UInt8) (w : World) (ho : Own w base (.slice A n c) l) (hn : n ≤ maxLen) :
    Calls Try.prog 17 #[.slice A n c] w (Spoilt w (.slice A n c)) := by
  unfold maxLen at hn
  go_enter Try.func17, Try.ntmps17
  go_wp2
  go_loopw [2] (fun i wr => ∃ (k : Nat) (l' : List UInt8), k ≤ n ∧ i = .int .i64 k ∧ Own wr base (.slice A n c) l' ∧ w.grownBy wr (Value.ownBlock (.slice A n c))) (fun i _ => n - (intOf i).toNat)
  case atStart => exact ⟨0, l, Nat.zero_le _, rfl, ho, World.grownBy.refl _ _⟩
  case round =>
    clear ho
    obtain ⟨k, l', hk, rfl, how, hgw⟩ := hrel
    by_cases hlt : k < n
    · obtain ⟨hlen, g, rfl, hbg, _, hnc, hcm⟩ := how.head (by omega)
      have hk' : k < l'.length := by omega
      have hcell := how.cellAt hk'
      have hfr := how.frozenAt k
      have hbyte : l'[k].toNat < 256 := l'[k].toNat_lt
      clear hlen
      go_wp2
      have hst := how.stored k (UInt8.ofNat (((l'[k].toNat : Int) + 1) % 256).toNat) _ (u8_of (z := ((l'[k].toNat : Int) + 1) % 256) (by omega) (by omega))
      exact ⟨⟨k + 1, _, by omega, by go_num, hst.1, grown_trans hgw hst.2⟩, by simp [intOf]; omega⟩
    · go_wp2
      go_end0
      exact ⟨rfl, hgw⟩

theorem dig_last (acc : List UInt8) (x y : UInt8) (k : Nat) (h : acc.length = k) : (acc ++ [x]).set k y = acc ++ [y] := by
  subst h
  simp

theorem bv_dig0' (m : Nat) : Value.int IntKind.u8 ((m : Int) % 128) = bv (dig0 (m % 128)) := by
  have h := bv_dig0 (n := m % 128) (by omega)
  rw [← h]
  simp
theorem bv_dig1' (q r : Nat) (h : r < 128) : Value.int IntKind.u8 ((r : Int) + 128) = bv (dig1 (r + 128 * q)) := by
  rw [← bv_dig1]
  congr 1
  omega

set_option maxHeartbeats 400000 in
set_option maxRecDepth 20000 in
theorem refnum_nat (N : Nat) (w : World) (hN : N ≤ 9007199254740991) : Calls Try.prog 45 #[.int .i64 N] w (GotBytesE w (digs N) 0) := by
  have h8 := digs_len8 hN
  have b0 : decide ((N : Int) < 0) = false := by simp
  have b1 : decide ((9007199254740991 : Int) < N) = false := by simp; omega
  have hst := Own.lit (w := w) w.heap.size [dig0 (N % 128)] (Nat.le_refl _) (by simp [maxLen])
  have e0 : ([dig0 (N % 128)].map bv).toArray = #[Value.int IntKind.u8 ((N : Int) % 128)] := by rw [bv_dig0']; simp
  rw [e0] at hst
  clear e0
  go_enter Try.func45, Try.ntmps45
  go_wp2_with fail
  go_loopw [0, 4] (fun t v wr => ∃ (q r : Nat) (acc : List UInt8), q ≤ 9007199254740991 ∧ r < 128 ∧ t = .int .i64 (q : Int) ∧ Hid (digs N = acc ++ digs (r + 128 * q)) ∧ Own wr w.heap.size v (acc ++ [dig0 r]) ∧ Below w.heap.size w wr) (fun t _ _ => (intOf t).toNat)
  case atStart => exact ⟨N / 128, N % 128, [], by omega, by omega, by go_num, by rw [Nat.mod_add_div]; rfl, hst, bl_alloc (Below.refl _ _) _⟩
  case round =>
    clear hst
    obtain ⟨q, r, acc, hq, hr, rfl, HE, how, hbl⟩ := hrel
    have hacc : acc.length + 1 ≤ 8 := by
      have h := HE.out
      have := congrArg List.length h
      rw [List.length_append] at this
      have := digs_len_pos (r + 128 * q)
      omega
    obtain ⟨A, n, c, rfl, HL, hnc, hcm, _⟩ := how.form
    have hn : n = acc.length + 1 := by have := HL.out; simpa using this.symm
    by_cases hlt : 0 < q
    · obtain ⟨hlen, g, rfl, hbg, hgl, _, _⟩ := how.head (by omega)
      have hcell := how.cellAt (k := n - 1) (by omega)
      have hfr := how.frozenAt (n - 1)
      have el : ((acc ++ [dig0 r])[n - 1]'(by omega)).toNat = r := by
        have e2 : (acc ++ [dig0 r])[n - 1]'(by omega) = dig0 r := by
          have e3 : n - 1 = acc.length := by omega
          simp [e3]
        rw [e2, dig0_nat hr]
      rw [el] at hcell
      have hs1 := (how.stored (n - 1) (dig1 (r + 128 * q)) (.int .u8 ((r : Int) + 128)) (bv_dig1' q r hr))
      rw [dig_last acc _ _ (n - 1) (by omega)] at hs1
      have hn1 : 0 < n ∧ n ≤ 8 := by omega
      clear el hlen hn
      have hsz := hbl.size
      have hone := Rd.one (wr.setCell ⟨g, n - 1, none⟩ (.int .u8 ((r : Int) + 128))) _ _ (bv_dig0' q)
      have hsame : (wr.setCell ⟨g, n - 1, none⟩ (.int .u8 ((r : Int) + 128))).heap.size = wr.heap.size := by simp [World.setCell]
      rw [hsame] at hone
      clear hsame
      go_wp2_with (at_builtin; refine wpList_append_bytes _ rfl _ _ rfl w.heap.size _ (acc ++ [dig1 (r + 128 * q)]) rfl (hs1.1.alloc _) _ 1 1 [dig0 (q % 128)] rfl rfl hone (by simp; omega) (by simp; omega) ?_)
      intro v' w' ho' hg' _
      go_wp2
      refine ⟨⟨q / 128, q % 128, acc ++ [dig1 (r + 128 * q)], by omega, by omega, by go_num, ?_, ?_, ?_⟩, by simp [intOf]; omega⟩
      · show _ = _
        rw [HE.out, digs_big (by omega), Nat.mod_add_div, show (r + 128 * q) / 128 = q by omega]
        simp
      · simpa using ho'
      · exact bl_grown (bl_alloc (bl_grown hbl hs1.2 (fun k hk => by cases hk; exact hbg)) _) hg' (fun k hk => by cases hk; exact hbg)
    · obtain rfl : q = 0 := by omega
      go_wp2_with fail
      go_ret2
      refine ⟨_, rfl, ?_, hbl⟩
      rw [HE.out, digs_small (by omega)]
      simpa using how

set_option maxHeartbeats 400000 in
set_option maxRecDepth 20000 in
theorem refnum_any (n : Int) (w : World) (h1 : -9223372036854775808 ≤ n) (h2 : n ≤ 9223372036854775807) : Calls Try.prog 45 #[.int .i64 n] w (GotBytesE w (numE n).1 (numE n).2) := by
  by_cases ha : n < 0
  · have hb : decide (n < 0) = true := by simp [ha]
    go_enter Try.func45, Try.ntmps45
    go_wp2_with fail
    go_ret2
    unfold numE
    rw [if_pos (.inl ha)]
    exact ⟨_, rfl, Own.nil _ _, Below.refl _ _⟩
  · have hb : decide (n < 0) = false := by simp; omega
    by_cases hc : 9007199254740991 < n
    · have hb2 : decide (9007199254740991 < n) = true := by simp [hc]
      go_enter Try.func45, Try.ntmps45
      go_wp2_with fail
      go_ret2
      unfold numE
      rw [if_pos (.inr hc)]
      exact ⟨_, rfl, Own.nil _ _, Below.refl _ _⟩
    · obtain ⟨m, rfl⟩ := Int.eq_ofNat_of_zero_le (show 0 ≤ n by omega)
      have h := refnum_nat m w (by omega)
      unfold numE
      rw [if_neg (by omega), Int.toNat_natCast]
      exact h

end Go.Proofs.Ytlblcligjelbgaa
