/- digit and Parse of the program. No condition. -/
import Derived.Test.YthpcmceomamadaaShaV
import Derived.Laws.ResultCell
set_option linter.unusedVariables false
set_option linter.unusedSimpArgs false
namespace Go.Proofs.Ythpcmceomamadaa
open Go.RowKit

def GotDg (w : World) (o : Option Nat) (e : Ending) (w' : World) : Prop := e = .returned (.tuple #[.int .u8 ((o.getD 0 : Nat) : Int), .bool o.isSome]) ∧ w = w'

set_option maxHeartbeats 1000000 in
theorem digit_any (c : UInt8) (w : World) : Calls Try.prog 64 #[.int .u8 (c.toNat : Int)] w (GotDg w (worthE c)) := by
  obtain ⟨n, hn⟩ : ∃ n, c.toNat = n := ⟨_, rfl⟩
  have hb : n < 256 := by have := c.toNat_lt; omega
  have HN := Lib.hid hn
  unfold worthE
  rw [hn]
  clear hn
  by_cases h1 : n < 48
  · rw [if_neg (by omega), if_neg (by omega)]
    have b1 : decide (48 ≤ (n : Int)) = false := by simp; omega
    have b2 : decide (97 ≤ (n : Int)) = false := by simp; omega
    go_enter Try.func64, Try.ntmps64
    go_wp2
    go_ret2
    exact ⟨rfl, rfl⟩
  · by_cases h2 : n ≤ 57
    · rw [if_pos (by omega)]
      have b1 : decide (48 ≤ (n : Int)) = true := by simp; omega
      have b2 : decide ((n : Int) ≤ 57) = true := by simp; omega
      have e1 : (n : Int) - 48 = ((n - 48 : Nat) : Int) := by omega
      go_enter Try.func64, Try.ntmps64
      go_wp2
      go_ret2
      exact ⟨rfl, rfl⟩
    · rw [if_neg (by omega)]
      have b1 : decide (48 ≤ (n : Int)) = true := by simp; omega
      have b2 : decide ((n : Int) ≤ 57) = false := by simp; omega
      by_cases h3 : n < 97
      · rw [if_neg (by omega)]
        have b3 : decide (97 ≤ (n : Int)) = false := by simp; omega
        go_enter Try.func64, Try.ntmps64
        go_wp2
        go_ret2
        exact ⟨rfl, rfl⟩
      · have b3 : decide (97 ≤ (n : Int)) = true := by simp; omega
        by_cases h4 : n ≤ 102
        · rw [if_pos (by omega)]
          have b4 : decide ((n : Int) ≤ 102) = true := by simp; omega
          have e1 : (n : Int) - 97 + 10 = ((n - 87 : Nat) : Int) := by omega
          go_enter Try.func64, Try.ntmps64
          go_wp2
          go_ret2
          exact ⟨rfl, rfl⟩
        · rw [if_neg (by omega)]
          have b4 : decide ((n : Int) ≤ 102) = false := by simp; omega
          go_enter Try.func64, Try.ntmps64
          go_wp2
          go_ret2
          exact ⟨rfl, rfl⟩

theorem results_cell_row_tmp {fn : Func} {p u : Tmp} {ty : TypeId} (h : fn.results = #[.cell p ty, .tmp u]) (tmps : Array Value) (w : World) (g : Nat) (cs : Array Value) (v : Value)
    (hp : tmps.getD p undef = .pointer (some ⟨g, 0, none⟩)) (hv : tmps.getD u undef = v) (hld : (loadVar ty ⟨g, 0, none⟩).run Try.prog w = .ok (.agg cs) w) :
    (results fn tmps).run Try.prog w = .ok (.tuple #[.agg cs, v]) w := by
  rw [results_cell_tmp h, hp, hv]
  simp only [asAddr, Sem.run_pure, Result.andThen_ok, hld]

theorem wpList_zero32 {ops : Array Oper} {rest : List Oper} {o : Oper} {a : Act} {w : World} {Q : Exit → Act → World → Prop} (hg : o.guard = none) (ho : o.op = .build 37 #[])
    (h : wpList Try.prog ops Q rest (a.put o.dst (.agg tab32)) w) : wpList Try.prog ops Q (o :: rest) a w := by
  have hb : Try.prog.built 37 [] = some tab32 := by kernel_rfl
  refine wpList_build hg _ _ ho ?_ ?_
  · simp [hb]
  · simpa [hb] using h

/-- What is answered for digits. -/
def parseF (l : List UInt8) : Nat → UInt8 := if goodB l = true then byteP l else fun _ => 0
def parseR (l : List UInt8) : Int := if goodB l = true then 0 else 4
def GotP (w : World) (l : List UInt8) (e : Ending) (w' : World) : Prop := e = .returned (.tuple #[.agg (rowB 32 (parseF l)), .int .i64 (parseR l)]) ∧ Below w.heap.size w w'

theorem letter_at (l : List UInt8) (j : Nat) (hj : j < l.length) (z : Int) (hz : z = (j : Int)) (W : World) : (Instr.index 9 (.string ⟨l.toArray⟩) (.int .i64 z)).run Try.prog W = .ok (.int .u8 ((l.getD j 0).toNat : Int)) W := by
  subst hz
  have hs : (⟨l.toArray⟩ : ByteArray).size = l.length := by simp [ByteArray.size]
  rw [run_index_string W 9 _ .i64 j Try.underlying9, dif_pos ⟨by omega, by rw [hs]; omega⟩]
  have e : (⟨l.toArray⟩ : ByteArray)[(j : Int).toNat]'(by rw [hs]; simpa using hj) = l.getD j 0 := by
    rw [List.getD_eq_getElem?_getD, List.getElem?_eq_getElem hj]
    rfl
  rw [e]
theorem len_at (l : List UInt8) (ts : Array TypeId) (ty : TypeId) (hts : ts = #[9]) (W : World) : (Builtin.len_ ts ty #[.string ⟨l.toArray⟩]).run Try.prog W = .ok (.int .i64 (l.length : Int)) W := by
  subst hts
  rw [run_len_string W 9 ty _ Try.underlying9]
  simp [ByteArray.size, goInt]

theorem tab32_one : tab32.all (·.oneCell') = true := by kernel_rfl
theorem or_low : ∀ a : Nat, a < 16 → ∀ b : Nat, b < 16 → bits .or .u8 ((a : Int) * 16) (b : Int) = ((16 * a + b : Nat) : Int) := by decide +kernel
theorem parse_bad {l : List UInt8} (h : ¬ goodB l = true) : rowB 32 (parseF l) = tab32 ∧ parseR l = 4 := by
  unfold parseF parseR
  rw [if_neg h, if_neg h]
  exact ⟨tab32_row.symm, rfl⟩
theorem parse_good {l : List UInt8} (h : goodB l = true) : parseF l = byteP l ∧ parseR l = 0 := by
  unfold parseF parseR
  rw [if_pos h, if_pos h]
  exact ⟨rfl, rfl⟩
/-- An array, read whole. -/
theorem load32 {w : World} {g : Nat} {cs : Array Value} (hg : w.heap[g]? = some (.cells cs 37 (0, 0))) (hs : cs.size = 32) : (loadVar 37 ⟨g, 0, none⟩).run Try.prog w = .ok (.agg cs) w :=
  run_loadVar_row w g 37 37 cs (0, 0) _ hg Try.underlying37 rfl (by rw [size32, hs])

set_option maxHeartbeats 4000000 in
set_option maxRecDepth 100000 in
theorem parse_any (l : List UInt8) (w : World) (hl : l.length ≤ maxLen) : Calls Try.prog 48 #[.string ⟨l.toArray⟩] w (GotP w l) := by
  unfold maxLen at hl
  have hz := zero32
  have hlen := fun ty => len_at l #[9] ty rfl
  have i0 : ((w.alloc (.cells tab32 37)).alloc (.cells tab32 37)).heap[w.heap.size]? = some (.cells tab32 37 (0, 0)) := heap_alloc2_old w _ _
  have i1 : Hb ((w.alloc (.cells tab32 37)).alloc (.cells tab32 37)) (w.heap.size + 1) 37 32 (fun j => if j < 0 then byteP l j else 0) := by
    have h : Hb ((w.alloc (.cells tab32 37)).alloc (.cells tab32 37)) (w.heap.size + 1) 37 32 (fun _ => 0) := by
      unfold Hb
      rw [← tab32_row]
      exact heap_alloc2_new w _ _
    exact h.turn (fun j _ => by simp)
  have iB : Below w.heap.size w ((w.alloc (.cells tab32 37)).alloc (.cells tab32 37)) := bl_alloc (bl_alloc (Below.refl _ _) _) _
  have I0 := Lib.hid i0
  have I1 := Lib.hid i1
  have IB := Lib.hid iB
  clear i0 i1 iB
  by_cases h64 : l.length = 64
  · have hb : ((l.length : Int) != 64) = false := by simp [h64]
    have H := Lib.hid h64
    clear h64
    go_enter Try.func48, Try.ntmps48
    go_wp2
    clear hz
    go_loopw [14] (fun i wr => ∃ k : Nat, k ≤ 32 ∧ i = .int .i64 k ∧ Hid (goodK l k) ∧ Hb wr (w.heap.size + 1) 37 32 (fun j => if j < k then byteP l j else 0) ∧ wr.heap[w.heap.size]? = some (.cells tab32 37 (0, 0)) ∧ Below w.heap.size w wr) (fun i _ => 32 - (intOf i).toNat)
    case atStart => exact ⟨0, by omega, rfl, show goodK l 0 from fun j hj => by omega, I1.out, I0.out, IB.out⟩
    case round =>
      clear I0 I1 IB
      obtain ⟨k, hk, rfl, HG, h1, h0, hB⟩ := hrel
      have J1 := Lib.hid h1
      have J0 := Lib.hid h0
      have JB := Lib.hid hB
      clear h1 h0 hB
      by_cases hlt : k < 32
      · have la := letter_at l (2 * k) (by have := H.out; omega) (2 * (k : Int)) (by omega)
        have lb := letter_at l (2 * k + 1) (by have := H.out; omega) (2 * (k : Int) + 1) (by omega)
        have hp : pairE l k = match worthE (l.getD (2 * k) 0), worthE (l.getD (2 * k + 1) 0) with
          | some a, some b => some (UInt8.ofNat (16 * a + b))
          | _, _ => none := rfl
        generalize l.getD (2 * k) 0 = x at *
        generalize l.getD (2 * k + 1) 0 = y at *
        have hbad : pairE l k = none → ¬ goodB l = true := by
          intro hn hg
          rw [goodB_iff] at hg
          have := hg.2 k hlt
          rw [hn] at this
          cases this
        have HBad := Lib.hid hbad
        clear hbad
        cases ea : worthE x with
        | none =>
          rw [ea] at hp
          have HP := Lib.hid hp
          clear hp
          go_wp2_with (first
            | (go_at_call 64; refine (digit_any _ _).mono ?_; rintro e w' ⟨rfl, rfl⟩)
            | (refine wpList_store_row rfl 37 _ _ rfl w.heap.size _ rfl rfl 37 _ J0.out (by rw [size32]; rfl) rfl tab32_one ?_))
          obtain ⟨q1, q2⟩ := parse_bad (HBad.out HP.out)
          refine bodyPost_ret (v := .tuple #[.agg tab32, .int .i64 4]) (results_cell_row_tmp rfl _ _ w.heap.size _ _ rfl rfl (load32 (setRow_heap _ _ _ _ _ _ J0.out) rfl)) rfl ⟨by rw [q1, q2], ?_⟩
          exact bl_setRow JB.out (Nat.le_refl _) _
        | some a =>
          cases eb : worthE y with
          | none =>
            rw [ea, eb] at hp
            have HP := Lib.hid hp
            clear hp
            go_wp2_with (first
              | (go_at_call 64; refine (digit_any _ _).mono ?_; rintro e w' ⟨rfl, rfl⟩)
              | (refine wpList_store_row rfl 37 _ _ rfl w.heap.size _ rfl rfl 37 _ J0.out (by rw [size32]; rfl) rfl tab32_one ?_))
            obtain ⟨q1, q2⟩ := parse_bad (HBad.out HP.out)
            refine bodyPost_ret (v := .tuple #[.agg tab32, .int .i64 4]) (results_cell_row_tmp rfl _ _ w.heap.size _ _ rfl rfl (load32 (setRow_heap _ _ _ _ _ _ J0.out) rfl)) rfl ⟨by rw [q1, q2], ?_⟩
            exact bl_setRow JB.out (Nat.le_refl _) _
          | some b =>
            rw [ea, eb] at hp
            have HP := Lib.hid hp
            have ha := worth_lt ea
            have hb2 := worth_lt eb
            have ck := J1.out.cell hlt
            have fk := J1.out.free k
            have e1 : (a : Int) * 16 % 256 = (a : Int) * 16 := by omega
            have hor := or_low a ha b hb2
            obtain ⟨z, hz⟩ : ∃ z, 16 * a + b = z := ⟨_, rfl⟩
            rw [hz] at hor
            have HZ := Lib.hid hz
            clear hp hz
            go_wp2_with (go_at_call 64; refine (digit_any _ _).mono ?_; rintro e w' ⟨rfl, rfl⟩)
            have hpk : pairE l k = some (UInt8.ofNat z) := by rw [← HZ.out]; exact HP.out
            have hbk : byteP l k = UInt8.ofNat z := by unfold byteP; rw [hpk]; rfl
            have hv : Value.int .u8 (z : Int) = bv (byteP l k) := by
              rw [hbk]
              unfold bv
              rw [UInt8.toNat_ofNat', Nat.mod_eq_of_lt (by have := HZ.out; omega)]
            refine ⟨⟨k + 1, by omega, by go_num, ?_, J1.out.set k _ _ hv (fun j _ => upd_ltB (byteP l) k j), ?_, JB.out.setCell (p := ⟨w.heap.size + 1, k, none⟩) (by simp) _⟩, by simp [intOf]; omega⟩
            · show goodK l (k + 1)
              intro j hj
              by_cases e : j = k
              · subst e
                rw [hpk]
                rfl
              · exact HG.out j (by omega)
            · rw [Below.heap_setCell _ _ _ _ (by simp)]; exact J0.out
      · obtain rfl : k = 32 := by omega
        have h32 := J1.out.turn (f' := byteP l) (fun j hj => if_pos hj)
        have J2 := Lib.hid h32
        clear J1 h32
        go_wp2_with (first
          | (refine wpList_load_row rfl 37 _ rfl (w.heap.size + 1) rfl 37 _ (0, 0) _ J2.out Try.underlying37 rfl (by rw [size32, rowB_size]) ?_)
          | (refine wpList_store_row rfl 37 _ _ rfl w.heap.size _ rfl rfl 37 _ J0.out (by rw [size32, rowB_size]) (by rw [rowB_size]; rfl) (rowB_one _ _) ?_))
        obtain ⟨q1, q2⟩ := parse_good ((goodB_iff l).2 ⟨H.out, HG.out⟩)
        refine bodyPost_ret (v := .tuple #[.agg (rowB 32 (byteP l)), .int .i64 0]) (results_cell_row_tmp rfl _ _ w.heap.size _ _ rfl rfl (load32 (setRow_heap _ _ _ _ _ _ J0.out) (by rw [rowB_size]))) rfl ⟨by rw [q1, q2], ?_⟩
        exact bl_setRow JB.out (Nat.le_refl _) _
  · have hb : ((l.length : Int) != 64) = true := by simp; omega
    have hbad : ¬ goodB l = true := by
      rw [goodB_iff]
      exact fun h => h64 h.1
    have HBad := Lib.hid hbad
    clear h64 hbad
    go_enter Try.func48, Try.ntmps48
    go_wp2_with (refine wpList_store_row rfl 37 _ _ rfl w.heap.size _ rfl rfl 37 _ I0.out (by rw [size32]; rfl) rfl tab32_one ?_)
    obtain ⟨q1, q2⟩ := parse_bad HBad.out
    refine bodyPost_ret (v := .tuple #[.agg tab32, .int .i64 4]) (results_cell_row_tmp rfl _ _ w.heap.size _ _ rfl rfl (load32 (setRow_heap _ _ _ _ _ _ I0.out) rfl)) rfl ⟨by rw [q1, q2], ?_⟩
    exact bl_setRow IB.out (Nat.le_refl _) _

end Go.Proofs.Ythpcmceomamadaa
