/- Words of the grammar language: words stand in order. No condition. -/
import Derived.Test.YtlepaciglkodbaaDoorWdRow
set_option linter.unusedVariables false
set_option linter.unusedSimpArgs false
namespace Go.Proofs.YtlepaciglkodbaaDoor
open Go.RowKit

theorem cut_mid (A : Option Addr) (n c s d : Nat) (l : List UInt8) (w : World) (hl : l.length = n) (hr : Rd w A l) (ht : s + d ≤ n) (hnc : n ≤ c) (zs zt : Int) (es : (s : Int) = zs) (et : ((s + d : Nat) : Int) = zt) :
    ∃ A', (∀ W : World, (Instr.slice 22 (.slice A n c) (some (.int .i64 zs)) (some (.int .i64 zt)) none).run Tryd.prog W = .ok (.slice A' d (c - s)) W) ∧ Rd w A' ((l.take (s + d)).drop s) ∧ Hid (((l.take (s + d)).drop s).length = d) := by
  subst es et
  refine ⟨_, fun W => ?_, (hr.take (s + d)).drop s c (by rw [List.length_take]; omega), by rw [Hid, List.length_drop, List.length_take]; omega⟩
  obtain ⟨i, hi, _, hs1, _⟩ := info_parts info_u8
  have he : Tryd.prog.elem 22 = 5 := by kernel_rfl
  rw [run_slice_lh W 22 A n c (by rw [he]; exact Tryd.underlying22) .i64 .i64 s (s + d : Nat) (by omega) (by omega) (by omega)]
  simp [sizeOf, typeInfo, he, hi, hs1, sliced, Result.andThen]
  omega

theorem cut_to (A : Option Addr) (n c k : Nat) (hk : k ≤ n) (hnc : n ≤ c) (z : Int) (hz : (k : Int) = z) (W : World) : (Instr.slice 22 (.slice A n c) none (some (.int .i64 z)) none).run Tryd.prog W = .ok (.slice A k c) W := by
  subst hz
  obtain ⟨i, hi, _, hs1, _⟩ := info_parts info_u8
  have he : Tryd.prog.elem 22 = 5 := by kernel_rfl
  rw [run_slice_h W 22 A n c (by rw [he]; exact Tryd.underlying22) .i64 k (by omega) (by omega)]
  simp [sizeOf, typeInfo, he, hi, hs1, sliced, Result.andThen]
  intro _
  cases A <;> simp [Addr.add]

theorem word_kind {u : List UInt8} {k : Nat} (h : WordOK u k) : 1 ≤ k ∧ k ≤ 13 := by
  obtain ⟨_, h2⟩ := h
  have := (h2 [] (Sep.nil k)).2
  rcases first_kind this with ⟨h, _⟩ | ⟨h, _⟩ | ⟨h, _⟩ | ⟨h | h, _⟩ <;> omega
/-- Words in order, up to an end. -/
def OrdP (b : List UInt8) (p q : Nat) (l : List Tk) (f : Nat → Nat) : Prop := f 0 = p ∧ f l.length = q ∧
  ∀ i (h : i < l.length), 1 ≤ l[i].kind ∧ l[i].kind ≤ 13 ∧ f i ≤ l[i].from' ∧ l[i].from' < l[i].to ∧ l[i].to ≤ q ∧ f (i + 1) = l[i].to ∧ (gapST false ((b.take l[i].from').drop (f i))).isSome = true
theorem Cuts.order {p : Nat} {v : List UInt8} {l : List Tk} (h : Cuts p v l) : ∀ (pre x : List UInt8), pre.length = p → ∃ f, OrdP (pre ++ (v ++ x)) p (p + v.length) l f := by
  induction h with
  | nil p => exact fun pre x hp => ⟨fun _ => p, rfl, rfl, fun i hi => by simp at hi⟩
  | @word p g u v k l hg hu hv hn ih =>
    intro pre x hp
    obtain ⟨f, hf0, hfl, hf⟩ := ih (pre ++ (g ++ u)) x (by simp; omega)
    have hk := word_kind hu
    have hu1 := hu.1
    refine ⟨fun i => if i = 0 then p else f (i - 1), rfl, ?_, fun i hi => ?_⟩
    · simp only [List.length_cons, Nat.add_sub_cancel, hfl, List.length_append]
      rw [if_neg (by omega)]
      omega
    · have e : pre ++ (g ++ u) ++ (v ++ x) = pre ++ (g ++ (u ++ v) ++ x) := by simp
      rw [e] at hf
      cases i with
      | zero =>
        simp only [List.getElem_cons_zero, List.length_append, if_true, Nat.zero_add, Nat.sub_self, hf0]
        refine ⟨hk.1, hk.2, by omega, by omega, by omega, by rw [if_neg (by omega)], ?_⟩
        have e2 : (pre ++ (g ++ (u ++ v) ++ x)).take (p + g.length) = pre ++ g := by
          rw [← hp, ← List.length_append, List.append_assoc, ← List.append_assoc pre g, List.take_left]
        rw [e2, ← hp, List.drop_left, hg]
        rfl
      | succ i =>
        obtain ⟨a1, a2, a3, a4, a5, a6, a7⟩ := hf i (by simpa using hi)
        simp only [List.getElem_cons_succ, List.length_append, Nat.add_sub_cancel]
        rw [if_neg (by omega), if_neg (by omega)]
        exact ⟨a1, a2, a3, a4, by omega, a6, a7⟩
/-- What Cut tells, in order: of all bytes, or of those ahead of the place at which no word begins. -/
theorem ans_order (b : List UInt8) : ∃ (e : Nat) (l : List Tk) (f : Nat → Nat) (q : Nat), e ≤ b.length ∧ OrdP b 0 q l f ∧ q ≤ e ∧ (gapST false ((b.take e).drop q)).isSome = true ∧
    ((e = b.length ∧ cutE b = .ok l) ∨ (e < b.length ∧ cutE b = .bad e ∧ cutE (b.take e) = .ok l)) := by
  obtain ⟨v, g, y, toks, r', hb, hc, hbe, hg, hres⟩ := cut_form b.length b 0 (Nat.le_refl _)
  obtain ⟨f, hf⟩ := hc.order [] (g ++ y) rfl
  rw [List.nil_append, ← hb, Nat.zero_add] at hf
  have hlen : b.length = v.length + g.length + y.length := by rw [hb]; simp; omega
  have htk : b.take (v.length + g.length) = v ++ g := by rw [hb, ← List.append_assoc, ← List.length_append, List.take_left]
  refine ⟨v.length + g.length, toks, f, v.length, by omega, hf, by omega, ?_, ?_⟩
  · rw [htk, List.drop_left, hg]
    rfl
  · rcases hres with ⟨hy, hcut⟩ | ⟨hy, hr, hcut⟩
    · subst hy
      exact Or.inl ⟨by simp at hlen; omega, hcut⟩
    · have hy0 : 0 < y.length := List.length_pos_iff.2 hy
      refine Or.inr ⟨by omega, by unfold cutE; rw [hcut]; simp, ?_⟩
      rw [htk]
      unfold cutE
      have hbg : Beh toks g := fun t ht => (hbe t ht).pre
      rw [hc.run g hbg]
      have := gap_run g [] (0 + v.length) false r' hg
      rw [List.append_nil] at this
      rw [this]
      simp [cutS, CutR.app]
theorem at_grown (W : World) (t : TypeId) (cs : Array Value) {w' : World} (hb : Below (W.heap.size + 1) (W.alloc (.cells cs t)) w') (j : Nat) (u : Value) (hu : cs[j]? = some u) : w'.cell? ⟨W.heap.size, j, none⟩ = some u := by
  have hn := heap_alloc_new W (.cells cs t)
  rw [cell_of_row w' W.heap.size j _ _ _ ((hb.block W.heap.size (by omega)).trans hn), hu]


set_option maxRecDepth 20000 in
set_option maxHeartbeats 2000000 in
theorem order_walk_any (A : Option Addr) (n c : Nat) (b : List UInt8) (w : World) (hT : Tab w) (hl : b.length = n) (hnc : n ≤ c) (hn0 : n ≤ 140737488351232) (hr : Rd w A b) : Calls Tryd.prog 5 #[.slice A n c] w (Yes w) := by
  generalize hQ : Yes w = Q
  have HQ := Lib.hid hQ
  have hcut := cut_any A n c b w hl hr (by unfold maxLen; omega) hT
  have HR := Lib.hid hr
  have HNC := Lib.hid hnc
  clear hQ hr
  by_cases hbig : 8192 < b.length
  · have ha : ansE b = ([], 0, 5) := by unfold ansE; rw [if_pos hbig]
    rw [ha] at hcut
    have b1 : decide ((8192 : Int) < (n : Int)) = true := by simp; omega
    clear ha hbig hl
    go_enter Tryd.func5, Tryd.ntmps5
    go_wp2_with fail
    refine hcut.mono ?_
    rintro e w1 ⟨v, rfl, ho, hb1⟩
    have hT1 := hT.below hb1
    go_wp2_with fail
    refine (awake_any _ hT1).mono ?_
    rintro e w2 ⟨rfl, hb2⟩
    go_wp2_with fail
    exact post_is HQ ⟨rfl, bl_trans hb1 hb2⟩
  · obtain ⟨en, l, f, q, hen, hord, hqe, hlast, hres⟩ := ans_order b
    obtain ⟨hf0, hfl, hff⟩ := hord
    have HF0 := Lib.hid hf0
    have HFL := Lib.hid hfl
    have HFF := Lib.hid hff
    have HLAST := Lib.hid hlast
    have HQE := Lib.hid hqe
    have HL := Lib.hid hl
    have hn : n ≤ 8192 := by omega
    rcases hres with ⟨rfl, hok⟩ | ⟨hlt, hbad, hah⟩
    · have ha : ansE b = (l, 0, 0) := by unfold ansE; rw [if_neg hbig, hok]
      rw [ha] at hcut
      rw [hl] at HLAST HQE
      clear ha hbig hok hf0 hfl hff hlast hqe hl hen
      go_enter Tryd.func5, Tryd.ntmps5
      go_wp2_with fail
      refine hcut.mono ?_
      rintro e w1 ⟨v, rfl, ho, hb1⟩
      obtain ⟨At, k, ct, rfl, HK, h1, h2, hrt⟩ := ho.shape
      have HRT := Lib.hid hrt
      have HB1 := Lib.hid hb1
      clear ho hrt hb1 hcut
      go_wp2_with fail

      go_loopw [10, 11, 12] (fun v10 v11 _ wr => ∃ i : Nat, i ≤ k ∧ v11 = .int .i64 (i : Int) ∧ v10 = .int .i64 ((f i : Nat) : Int) ∧ Below w1.heap.size w1 wr) (fun _ v11 _ _ => k - (intOf v11).toNat)
      case atStart => exact ⟨0, Nat.zero_le _, rfl, by rw [HF0.out]; rfl, Below.refl _ _⟩
      case round =>
        obtain ⟨i, hi, rfl, rfl, hbi⟩ := hrel
        by_cases hlt : i < k
        · have hil : i < l.length := by rw [HK.out]; exact hlt
          obtain ⟨ad, hA, q0, q1, q2⟩ := HRT.out.below hbi i hil
          subst hA
          obtain ⟨a1, a2, a3, a4, a5, a6, a7⟩ := HFF.out i hil
          have hqe := HQE.out
          have bl : decide (i < k) = true := by simp [hlt]
          have HLT := Lib.hid hlt
          have HMM := Lib.hid (show k - (i + 1) < k - i by omega)
          have hi3 : i < 9223372036854775807 := by unfold maxLen at h2; omega
          have hBW := bl_trans HB1.out hbi
          have hrb := HR.out.below (bl_alloc hBW (.cells #[nv l[i].kind, nv l[i].from', nv l[i].to] 36))
          obtain ⟨A', hcm, hrd', hlen'⟩ := cut_mid A n c (f i) (l[i].from' - f i) b _ HL.out hrb (by omega) HNC.out (f i : Int) (l[i].from' : Int) rfl (by omega)
          rw [show f i + (l[i].from' - f i) = l[i].from' by omega] at hrd' hlen'
          have hbt := between_any A' (l[i].from' - f i) (c - f i) _ _ hlen'.out hrd' (by unfold maxLen; omega)
          rw [a7] at hbt
          have HBT := Lib.hid hbt
          have HA6 := Lib.hid a6
          have HBW := Lib.hid hBW
          have HBI := Lib.hid hbi
          clear a7 hbt hrd' hrb hBW hlen' a6 hbi
          unfold nv at *
          generalize l[i].kind = x at *
          generalize l[i].from' = y at *
          generalize l[i].to = z at *
          generalize hfi : f i = fi at *
          have HFI := Lib.hid hfi
          clear hfi hil
          have b1 : decide ((x : Int) < 1) = false := by simp; omega
          have b2 : decide ((13 : Int) < (x : Int)) = false := by simp; omega
          have b3 : decide (y < fi) = false := by simp; omega
          have b4 : decide (z ≤ y) = false := by simp; omega
          have b5 : decide (n < z) = false := by simp; omega
          clear hqe
          go_wp2_with fail
          refine HBT.out.mono ?_
          rintro e2 w5 ⟨rfl, hb5⟩
          have hc2 := at_grown wr 36 #[.int .i64 (x : Int), .int .i64 (y : Int), .int .i64 (z : Int)] (hb5.mono (by simp)) 2 _ rfl
          have HB5 := Lib.hid ((HBI.out).trans ((bl_alloc (Below.refl wr.heap.size wr) _).trans (hb5.mono (by simp)) |>.mono (by have := HBI.out.size; omega)))
          clear hb5
          go_wp2_with fail
          go_roundw
          case rel => exact ⟨i + 1, HLT.out, by go_num, by rw [HA6.out], HB5.out⟩
          case measure => have := HMM.out; simpa [intOf, IntWalk.wrap64_in ((i : Int) + 1) ⟨by omega, by omega⟩] using this
        · have hik : i = k := by omega
          have bl : decide (i < k) = false := by simp; omega
          have hrb := HR.out.below (bl_trans HB1.out hbi)
          have hfl := HFL.out
          rw [HK.out, ← hik] at hfl
          have hfq := HQE.out
          obtain ⟨A', hcm, hrd', hlen'⟩ := cut_mid A n c (f i) (n - f i) b _ HL.out hrb (by omega) HNC.out (f i : Int) (n : Int) rfl (by omega)
          rw [show f i + (n - f i) = n by omega] at hrd' hlen'
          have hbt := between_any A' (n - f i) (c - f i) _ _ hlen'.out hrd' (by unfold maxLen; omega)
          rw [hfl] at hbt hcm
          rw [HLAST.out] at hbt
          have HBT := Lib.hid hbt
          have HBW := Lib.hid (bl_trans HB1.out hbi)
          have HFL2 := Lib.hid hfl
          clear hbt hrd' hrb hlen' hbi hik hlt hfq
          generalize f i = fi at *
          subst hfl
          go_wp2_with fail
          refine HBT.out.mono ?_
          rintro e2 w5 ⟨rfl, hb5⟩
          have HB5 := Lib.hid (bl_trans HBW.out hb5)
          have hT5 := hT.below HB5.out
          clear hb5
          go_wp2_with fail
          refine (awake_any _ hT5).mono ?_
          rintro e3 w6 ⟨rfl, hb6⟩
          have HB6 := Lib.hid (bl_trans HB5.out hb6)
          clear hb6
          go_wp2_with fail
          exact post_is HQ ⟨rfl, HB6.out⟩
    · have ha : ansE b = ([], en, 140) := by unfold ansE; rw [if_neg hbig, hbad]
      have ha2 : ansE (b.take en) = (l, 0, 0) := by unfold ansE; rw [if_neg (by simp; omega), hah]
      rw [ha] at hcut
      have hct := fun W => cut_to A n c en (by omega) hnc (en : Int) rfl W
      have hcut2 := fun W (hb : Below w.heap.size w W) => cut_any A en c (b.take en) W (by simp; omega) ((HR.out.below hb).take en) (by unfold maxLen; omega) (hT.below hb)
      rw [ha2] at hcut2
      have bn : decide ((en : Int) < 0) = false := by simp
      have bn2 : decide (n ≤ en) = false := by simp; omega
      have henn : en < n := by omega
      clear ha ha2 hbig hbad hah hf0 hfl hff hlast hqe hl hen hlt
      go_enter Tryd.func5, Tryd.ntmps5
      go_wp2_with fail
      refine hcut.mono ?_
      rintro e w1 ⟨v, rfl, ho, hb1⟩
      have HC2 := Lib.hid (hcut2 w1 hb1)
      have HB0 := Lib.hid hb1
      clear ho hcut hcut2 hb1
      go_wp2_with fail
      refine HC2.out.mono ?_
      rintro e w2 ⟨v2, rfl, ho, hb2⟩
      obtain ⟨At, k, ct, rfl, HK, h1, h2, hrt⟩ := ho.shape
      have HRT := Lib.hid hrt
      have HB1 := Lib.hid (bl_trans HB0.out hb2)
      clear ho hrt hb2
      go_wp2_with fail

      go_loopw [10, 11, 12] (fun v10 v11 _ wr => ∃ i : Nat, i ≤ k ∧ v11 = .int .i64 (i : Int) ∧ v10 = .int .i64 ((f i : Nat) : Int) ∧ Below w2.heap.size w2 wr) (fun _ v11 _ _ => k - (intOf v11).toNat)
      case atStart => exact ⟨0, Nat.zero_le _, rfl, by rw [HF0.out]; rfl, Below.refl _ _⟩
      case round =>
        obtain ⟨i, hi, rfl, rfl, hbi⟩ := hrel
        by_cases hlt : i < k
        · have hil : i < l.length := by rw [HK.out]; exact hlt
          obtain ⟨ad, hA, q0, q1, q2⟩ := HRT.out.below hbi i hil
          subst hA
          obtain ⟨a1, a2, a3, a4, a5, a6, a7⟩ := HFF.out i hil
          have hqe := HQE.out
          have bl : decide (i < k) = true := by simp [hlt]
          have HLT := Lib.hid hlt
          have HMM := Lib.hid (show k - (i + 1) < k - i by omega)
          have hi3 : i < 9223372036854775807 := by unfold maxLen at h2; omega
          have hBW := bl_trans HB1.out hbi
          have hrb := HR.out.below (bl_alloc hBW (.cells #[nv l[i].kind, nv l[i].from', nv l[i].to] 36))
          obtain ⟨A', hcm, hrd', hlen'⟩ := cut_mid A n c (f i) (l[i].from' - f i) b _ HL.out hrb (by omega) HNC.out (f i : Int) (l[i].from' : Int) rfl (by omega)
          rw [show f i + (l[i].from' - f i) = l[i].from' by omega] at hrd' hlen'
          have hbt := between_any A' (l[i].from' - f i) (c - f i) _ _ hlen'.out hrd' (by unfold maxLen; omega)
          rw [a7] at hbt
          have HBT := Lib.hid hbt
          have HA6 := Lib.hid a6
          have HBW := Lib.hid hBW
          have HBI := Lib.hid hbi
          clear a7 hbt hrd' hrb hBW hlen' a6 hbi
          unfold nv at *
          generalize l[i].kind = x at *
          generalize l[i].from' = y at *
          generalize l[i].to = z at *
          generalize hfi : f i = fi at *
          have HFI := Lib.hid hfi
          clear hfi hil
          have b1 : decide ((x : Int) < 1) = false := by simp; omega
          have b2 : decide ((13 : Int) < (x : Int)) = false := by simp; omega
          have b3 : decide (y < fi) = false := by simp; omega
          have b4 : decide (z ≤ y) = false := by simp; omega
          have b5 : decide (en < z) = false := by simp; omega
          clear hqe
          go_wp2_with fail
          refine HBT.out.mono ?_
          rintro e2 w5 ⟨rfl, hb5⟩
          have hc2 := at_grown wr 36 #[.int .i64 (x : Int), .int .i64 (y : Int), .int .i64 (z : Int)] (hb5.mono (by simp)) 2 _ rfl
          have HB5 := Lib.hid ((HBI.out).trans ((bl_alloc (Below.refl wr.heap.size wr) _).trans (hb5.mono (by simp)) |>.mono (by have := HBI.out.size; omega)))
          clear hb5
          go_wp2_with fail
          go_roundw
          case rel => exact ⟨i + 1, HLT.out, by go_num, by rw [HA6.out], HB5.out⟩
          case measure => have := HMM.out; simpa [intOf, IntWalk.wrap64_in ((i : Int) + 1) ⟨by omega, by omega⟩] using this
        · have hik : i = k := by omega
          have bl : decide (i < k) = false := by simp; omega
          have hrb := HR.out.below (bl_trans HB1.out hbi)
          have hfl := HFL.out
          rw [HK.out, ← hik] at hfl
          have hfq := HQE.out
          obtain ⟨A', hcm, hrd', hlen'⟩ := cut_mid A n c (f i) (en - f i) b _ HL.out hrb (by omega) HNC.out (f i : Int) (en : Int) rfl (by omega)
          rw [show f i + (en - f i) = en by omega] at hrd' hlen'
          have hbt := between_any A' (en - f i) (c - f i) _ _ hlen'.out hrd' (by unfold maxLen; omega)
          rw [hfl] at hbt hcm
          rw [HLAST.out] at hbt
          have HBT := Lib.hid hbt
          have HBW := Lib.hid (bl_trans HB1.out hbi)
          have HFL2 := Lib.hid hfl
          clear hbt hrd' hrb hlen' hbi hik hlt hfq
          generalize f i = fi at *
          subst hfl
          go_wp2_with fail
          refine HBT.out.mono ?_
          rintro e2 w5 ⟨rfl, hb5⟩
          have HB5 := Lib.hid (bl_trans HBW.out hb5)
          have hT5 := hT.below HB5.out
          clear hb5
          go_wp2_with fail
          refine (awake_any _ hT5).mono ?_
          rintro e3 w6 ⟨rfl, hb6⟩
          have HB6 := Lib.hid (bl_trans HB5.out hb6)
          clear hb6
          go_wp2_with fail
          exact post_is HQ ⟨rfl, HB6.out⟩

theorem order_walk (A : Option Addr) (n c : Nat) (b : List UInt8) (w : World) (hT : Tab w) (hl : b.length = n) (hnc : n ≤ c) (hcm : c ≤ 140737488351232) (hr : Rd w A b) : Calls Tryd.prog 5 #[.slice A n c] w (Yes w) :=
  order_walk_any A n c b w hT hl hnc (by omega) hr


end Go.Proofs.YtlepaciglkodbaaDoor
