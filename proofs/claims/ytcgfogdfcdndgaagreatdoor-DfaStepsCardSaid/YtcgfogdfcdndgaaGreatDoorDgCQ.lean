/- The maker of machines: the text of states; the least rule whose end is among states. -/
import Derived.Test.YtcgfogdfcdndgaaGreatDoorDgBQ
import Derived.Lib.SlBytesConst
set_option linter.unusedVariables false
set_option linter.unusedSimpArgs false
namespace Go.Proofs.YtcgfogdfcdndgaaGreatDoor
open Go.RowKit Go.Shelf
attribute [local go_sem] Oper.semAt_some

/-- 'string(b)'. -/
theorem string_of (w : World) (A : Option Addr) (n c : Nat) (l : List UInt8) (hl : l.length = n) (hr : Rd w A l) : (convert 44 9 (.slice A n c)).run Tryz.prog w = .ok (.string ⟨l.toArray⟩) w := by
  subst hl
  rcases A with _ | ad
  · have h0 : l = [] := by
      rcases l with _ | ⟨x, r⟩
      · rfl
      · obtain ⟨ad, h, _⟩ := hr (by simp)
        cases h
    subst h0
    exact run_convert_bytes_nil w _ _ Tryz.underlying44 Tryz.underlying5 0 c _ Tryz.underlying9
  · rw [run_convert_bytes_string w _ _ _ _ _ c Tryz.underlying44 Tryz.underlying5 Tryz.underlying9]
    have hcells : ∀ j u, (l.map bv)[j]? = some u → w.cell? (ad.add j) = some u := by
      intro j u hu
      rw [List.getElem?_map] at hu
      obtain ⟨x, hx, rfl⟩ := Option.map_eq_some_iff.1 hu
      obtain ⟨hj, rfl⟩ := List.getElem?_eq_some_iff.1 hx
      obtain ⟨ad', e, hc⟩ := hr (by omega)
      cases e
      exact hc j hj
    have e : l.map bv = (l.map fun b => (b.toNat : Int)).map (Value.int .u8) := by rw [List.map_map]; rfl
    have hload := run_loadCells_list (P := Tryz.prog) w ad (l.map bv) hcells
    rw [List.length_map, e] at hload
    rw [run_bytesToString w ad l.length c (l.map fun b => (b.toNat : Int)) hload, foldl_push_bytes]
    simp [ByteArray.empty, ByteArray.emptyWithCapacity, Function.comp_def]
    rfl

set_option maxRecDepth 20000 in
theorem rul1_any (base : Nat) (l : List Nat) (v : Value) (hlen : l.length ≤ 100000) (x : Int) (b : Nat) (W : World) (ho : OwnI W base v l) (hb : W.heap[b]? = some (.cells #[v] 23 (0, 0))) :
    Calls Tryz.prog 90 #[.int .i64 x, .pointer (some ⟨b, 0, none⟩)] W (GotBl W (isIn l x)) := by
  have HC := Lib.hid (contains_own base l v hlen x W ho)
  obtain ⟨A, n, c, rfl, _, _, _, _⟩ := ho.form
  have c0 := cell_of_row W b 0 _ _ _ hb
  generalize hQ : GotBl W (isIn l x) = Q
  have HQ := Lib.hid hQ
  clear hQ ho hb
  go_enter Tryz.func90, Tryz.ntmps90
  go_wp2_with fail
  refine HC.out.mono ?_
  rintro e w' ⟨rfl, rfl⟩
  clear HC c0
  go_wp2_with fail
  exact post_is HQ ⟨rfl, Below.refl _ _⟩
set_option maxRecDepth 100000 in
set_option maxHeartbeats 2000000 in
theorem ixru_any (X : List Int) (A : Option Addr) (n c : Nat) (hn : X.length = n) (hn2 : n ≤ 140737488355328) (base : Nat) (l : List Nat) (v : Value) (hlen : l.length ≤ 100000) (b : Nat) (W : World) (ho : OwnI W base v l) (hb : W.heap[b]? = some (.cells #[v] 23 (0, 0))) (hr : RdW W A X) :
    Calls Tryz.prog 47 #[.slice A n c, .func (.func 90) #[] #[.pointer (some ⟨b, 0, none⟩)]] W (GotIn W (idxE l X 0)) := by
  generalize hQ : GotIn W (idxE l X 0) = Q
  have HQ := Lib.hid hQ
  have HB := Lib.hid hb
  have HR := Lib.hid hr
  have HN := Lib.hid hn
  have HO := Lib.hid ho
  clear hQ hb hr hn ho
  go_enter Tryz.func47, Tryz.ntmps47
  go_wp2_with fail
  go_loopw [8] (fun vi wr => ∃ k : Nat, k ≤ n ∧ vi = .int .i64 (k : Int) ∧ Hid (∀ i (h : i < X.length), i < k → isIn l X[i] = false) ∧ Hid (Below W.heap.size W wr)) (fun vi _ => n - (intOf vi).toNat)
  case atStart => exact ⟨0, Nat.zero_le _, rfl, fun i h hi => absurd hi (by omega), Below.refl _ _⟩
  case round =>
    obtain ⟨k, hk, rfl, HA, HBW⟩ := hrel
    by_cases hlt : k < n
    · have hkl : k < X.length := by rw [HN.out]; exact hlt
      obtain ⟨ad, hA, hc1⟩ := (HR.out.below HBW.out) k hkl
      subst hA
      obtain ⟨q, hq⟩ : ∃ q, isIn l X[k] = q := ⟨_, rfl⟩
      have HIT := Lib.hid (show q = true → idxE l X 0 = (k : Int) from fun h => by
        have := idx_at l X 0 k hkl HA.out (by rw [hq, h])
        rwa [Nat.zero_add] at this)
      have HMISS := Lib.hid (show q = false → ∀ i (h : i < X.length), i < k + 1 → isIn l X[i] = false from fun h i hi hik => by
        by_cases e : i = k
        · subst e; rw [hq, h]
        · exact HA.out i hi (by omega))
      generalize X[k] = x at *
      have HCON := Lib.hid (rul1_any base l v hlen x b wr (HO.out.below HBW.out) ((HBW.out.block b (Array.getElem?_eq_some_iff.1 HB.out).1).trans HB.out))
      clear hkl
      go_wp2_with fail
      refine HCON.out.mono ?_
      rintro e w2 ⟨rfl, hb2⟩
      have HB2 := Lib.hid (bl_trans HBW.out hb2)
      clear hb2 HCON HBW hc1
      rw [hq]
      clear hq
      cases q with
      | false =>
        go_wp2_with fail
        exact ⟨⟨k + 1, by omega, by go_num, HMISS.out trivial, HB2.out⟩, by simp [intOf]; omega⟩
      | true =>
        go_wp2_with fail
        refine post_is HQ ⟨?_, HB2.out⟩
        rw [HIT.out trivial]
        rfl
    · obtain rfl : k = n := by omega
      have HNO := Lib.hid (idx_none l X 0 (fun i h => HA.out i h (by rw [← HN.out]; exact h)))
      go_wp2_with fail
      refine post_is HQ ⟨?_, HBW.out⟩
      rw [HNO.out]
      rfl

def GotI (W : World) (z : Int) (e : Ending) (W' : World) : Prop := e = .returned (.int .i64 z) ∧ Below W.heap.size W W'
set_option maxRecDepth 20000 in
theorem rule_any {W0 W1 : World} {n1 g gm gr S : Nat} {cl : Nat → Int} {m : Mv} {rd : Nat} {f : Nat → Nat} (X : List Int) (Ax : Option Addr) (nx cx : Nat) (hx : X.length = nx) (hx2 : nx ≤ 140737488355328) (hm : m.en = .slice Ax nx cx)
    (base : Nat) (l : List Nat) (A : Option Addr) (n c : Nat) (hlen : l.length ≤ 100000) (W : World) (h : MkR W0 W1 n1 g gm gr S cl m rd f W) (ho : OwnI W base (.slice A n c) l) (hr : RdW W Ax X) :
    Calls Tryz.prog 57 #[.pointer (some ⟨g, 0, none⟩), .slice A n c] W (GotI W (idxE l X 0)) := by
  generalize hQ : GotI W (idxE l X 0) = Q
  have HQ := Lib.hid hQ
  have bA := bl_alloc (Below.refl W.heap.size W) (.cells #[.slice A n c] 23)
  have c2 := (bA.cell (World.block_lt_of_cell? W _ h.c2)).trans h.c2
  rw [hm] at c2
  have HI := Lib.hid (ixru_any X Ax nx cx hx hx2 base l (.slice A n c) hlen W.heap.size (W.alloc (.cells #[.slice A n c] 23)) (ho.below bA) (heap_alloc_new W _) (hr.below bA))
  have BA := Lib.hid bA
  have hmf : ∀ (fn : Fn) (first cap : Array Value) (w : World), (Instr.makeFunc fn first cap).run Tryz.prog w = .ok (.func fn first cap) w := fun _ _ _ _ => rfl
  clear hQ h ho hr bA hx
  go_enter Tryz.func57, Tryz.ntmps57
  go_wp2_with fail
  refine HI.out.mono ?_
  rintro e w2 ⟨rfl, hb2⟩
  have B2 := Lib.hid (bl_trans BA.out hb2)
  clear hb2 HI
  go_wp2_with fail
  exact post_is HQ ⟨rfl, B2.out⟩

/-- Texts. -/
theorem byte_hi (s : Nat) : Value.int .u8 ((s : Int) / 256 % 256) = bv (UInt8.ofNat (s / 256)) := by
  unfold bv
  rw [UInt8.toNat_ofNat']
  congr 1
theorem byte_lo (s : Nat) : Value.int .u8 ((s : Int) % 256) = bv (UInt8.ofNat s) := by
  unfold bv
  rw [UInt8.toNat_ofNat']
  congr 1
theorem make_room (k : Nat) (z : Int) (hz : (k : Int) = z) (hk : k ≤ 1000000) (W : World) (base : Nat) (hb : base ≤ W.heap.size) :
    ∃ o, (Instr.makeSlice 44 (.int .i64 0) (.int .i64 z)).run Tryz.prog W = .ok (.slice (some ⟨W.heap.size, 0, none⟩) 0 k) (W.alloc o) ∧ Own (W.alloc o) base (.slice (some ⟨W.heap.size, 0, none⟩) 0 k) [] := by
  subst hz
  obtain ⟨i, hi, hz, hs, hb2⟩ := info_parts info_u8
  refine ⟨_, run_make (P := Tryz.prog) W 44 5 i (.int .u8 0) Tryz.underlying44 hi hz .i64 .i64 0 k (Int.le_refl _) (by omega) (by rw [hb2]; omega) (by omega), ?_⟩
  refine ⟨by simp, Or.inr ⟨W.heap.size, k, _, rfl, hb, heap_alloc_new W _, Nat.zero_le _, by simp [maxLen]; omega, ?_, by simp⟩⟩
  rw [hs]
  simp [madeCells, Value.cells]
def GotSt (W : World) (l : List UInt8) (e : Ending) (W' : World) : Prop := e = .returned (.string ⟨l.toArray⟩) ∧ Below W.heap.size W W'
set_option maxRecDepth 20000 in
set_option maxHeartbeats 2000000 in
theorem text_any (l : List Nat) (A : Option Addr) (n c : Nat) (hl : l.length = n) (hn : n ≤ 2048) (W : World) (hr : RdZ W A l) :
    Calls Tryz.prog 52 #[.slice A n c] W (GotSt W (textN l)) := by
  generalize hQ : GotSt W (textN l) = Q
  have HQ := Lib.hid hQ
  have HR := Lib.hid hr
  have HL := Lib.hid hl
  obtain ⟨k2, hk2⟩ : ∃ k, 2 * n = k := ⟨_, rfl⟩
  have hw : IntKind.i64.wrap (2 * (n : Int)) = (k2 : Int) := by rw [IntWalk.i64_in _ (by omega)]; omega
  obtain ⟨o, hmk, hown⟩ := make_room k2 (k2 : Int) rfl (by omega) W W.heap.size (Nat.le_refl _)
  have OW := Lib.hid hown
  have BO := Lib.hid (bl_alloc (Below.refl W.heap.size W) o)
  clear hQ hr hl hk2 hown
  go_enter Tryz.func52, Tryz.ntmps52
  go_wp2_with fail
  generalize W.alloc o = W1 at *
  clear hmk hw
  go_loopw [3, 12] (fun v3 vi wr => ∃ k : Nat, k ≤ n ∧ vi = .int .i64 (k : Int) ∧ Hid (Own wr W.heap.size v3 (textN (l.take k))) ∧ Hid (Below W.heap.size W wr)) (fun _ vi _ => n - (intOf vi).toNat)
  case atStart => exact ⟨0, Nat.zero_le _, rfl, OW.out, BO.out⟩
  case round =>
    obtain ⟨k, hk, rfl, OK, BK⟩ := hrel
    clear OW BO
    by_cases hlt : k < n
    · have hkl : k < l.length := by rw [HL.out]; exact hlt
      obtain ⟨ad, hA, hc1⟩ := (HR.out.below BK.out) k hkl
      subst hA
      have TK := Lib.hid (show textN (l.take (k + 1)) = textN (l.take k) ++ [UInt8.ofNat (l[k] / 256), UInt8.ofNat l[k]] from by rw [List.take_succ_eq_append_getElem hkl, textN_next])
      have LT := Lib.hid (show (textN (l.take k)).length = 2 * k from by rw [textN_len, List.length_take, HL.out]; omega)
      generalize l[k] = s at *
      generalize textN (l.take k) = tk at *
      obtain ⟨A3, n3, c3, rfl, HL3, _, _, _⟩ := OK.out.form
      clear hkl
      have RL := Lib.hid (show Rd (wr.alloc (.cells #[.int .u8 ((s : Int) / 256 % 256), .int .u8 ((s : Int) % 256)] 5)) (some ⟨wr.heap.size, 0, none⟩) [UInt8.ofNat (s / 256), UInt8.ofNat s] from fun _ => ⟨_, rfl, fun j hj => by
        have hk := heap_alloc_new wr (.cells #[.int .u8 ((s : Int) / 256 % 256), .int .u8 ((s : Int) % 256)] 5)
        rw [addr_mk, Nat.zero_add, cell_of_row _ _ j _ _ _ hk]
        match j, hj with
        | 0, _ => exact congrArg some (byte_hi s)
        | 1, _ => exact congrArg some (byte_lo s)⟩)
      have OA := Lib.hid (OK.out.alloc (.cells #[.int .u8 ((s : Int) / 256 % 256), .int .u8 ((s : Int) % 256)] 5))
      have BA := Lib.hid (bl_alloc BK.out (.cells #[.int .u8 ((s : Int) / 256 % 256), .int .u8 ((s : Int) % 256)] 5))
      clear OK BK
      go_wp2_with (at_builtin; refine wpList_append_bytes _ rfl _ _ rfl W.heap.size (.slice A3 n3 c3) tk rfl OA.out _ 2 2 [UInt8.ofNat (s / 256), UInt8.ofNat s] rfl rfl RL.out (by have := LT.out; simp only [List.length_cons, List.length_nil]; omega) BA.out.size ?_; intro v4 w4 ho4 hg4 hat4)
      refine ⟨⟨k + 1, by omega, by go_num, ?_, bl_grown BA.out hg4 (fun i e => (OA.out.lt i e).1)⟩, by simp [intOf]; omega⟩
      unfold Hid
      rw [TK.out]
      exact ho4
    · obtain rfl : k = n := by omega
      rw [show l.take k = l from List.take_of_length_le (by rw [HL.out]; exact Nat.le_refl _)] at OK
      obtain ⟨A3, n3, c3, rfl, HL3, _, _, hr3⟩ := OK.out.form
      have hst := string_of wr A3 n3 c3 _ HL3.out hr3
      generalize textN l = tl at *
      clear hr3
      go_wp2_with fail
      exact post_is HQ ⟨rfl, BK.out⟩

end Go.Proofs.YtcgfogdfcdndgaaGreatDoor
