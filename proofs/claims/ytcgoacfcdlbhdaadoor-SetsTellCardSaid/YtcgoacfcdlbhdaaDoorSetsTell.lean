/- SetsTell: for any set, any byte and any number: Has, Len, Least and All answer as the document's do; who stops is told no more. Under: the table of math/bits that the row lists is as its initialiser lays it. -/
import Derived.Test.YtcgoacfcdlbhdaaDoorSetRow
import Derived.Test.YtcgoacfcdlbhdaaDoorSetL
set_option linter.unusedVariables false
set_option linter.unusedSimpArgs false
namespace Go.Proofs.YtcgoacfcdlbhdaaDoor
open Go.ChangeShapes Go.WideShapes Go.ChangeAt Go.RowKit Go.Shelf
attribute [local go_sem] Oper.semAt_some

theorem len_of (f : Nat → BitVec 64) (n : Nat) (h : (elems f).length = n) (w : World) : Calls Tryd.prog 24 #[.agg (row4 f)] w (GotN w n) := by
  subst h
  exact len_any f w
theorem least_vals (l : List Nat) (h : ∀ c ∈ l, c < 256) : ∃ (y : Nat) (b : Bool), hdV l = .int .u8 (y : Int) ∧ isV l = .bool b ∧ y < 256 := by
  cases l with
  | nil => exact ⟨0, false, rfl, rfl, by omega⟩
  | cons c r => exact ⟨c, true, rfl, rfl, h c (by simp)⟩
theorem abT_boxed (n B : Nat) (t : TypeId) (v : Nat → Value) (ht : t ≠ 24) : AbT n (fun k W => Boxed W B t (v k)) := by
  intro k X Y row h hg hr
  refine h.kept hg (fun e => ?_)
  obtain ⟨_, o, h1, h2⟩ := hr B e.symm
  rcases h2 with h2 | ⟨cs, h2⟩
  · exact boxed_notCells h h1 h2 rfl
  · rw [show X.heap[B]? = _ from h] at h2
    simp at h2
    exact ht h2.2
theorem abT_own (n base : Nat) (v : Value) (l : List UInt8) : AbT n (fun _ W => Own W base v l) := by
  intro k X Y row ho hg hr
  refine ho.kept hg ?_
  cases hb : v.ownBlock with
  | none => exact .inl rfl
  | some g =>
    refine .inr fun e => ?_
    obtain ⟨_, o, h1, h2⟩ := hr g e.symm
    rcases h2 with h2 | h2
    · exact ho.isCells h1 h2 hb
    · exact ho.notSet h2 hb

theorem Own.notInt {W : World} {base B : Nat} {v u : Value} {l : List UInt8} (h : Own W base v l) (hb : Boxed W B 3 u) : v.ownBlock ≠ some B := by
  rcases h.2 with ⟨rfl, _⟩ | ⟨g, cap, cur, rfl, _, hgb, _⟩
  · simp [Value.ownBlock]
  · intro e
    obtain rfl : g = B := by simpa [Value.ownBlock] using e
    rw [show W.heap[g]? = _ from hb] at hgb
    simp at hgb
theorem abT_pure (n : Nat) (p : Nat → Prop) : AbT n (fun k _ => p k) := fun _ _ _ _ h _ _ => h
/-- The loop, its left side laid by hand. -/
theorem wp_told2 (p q : Nat) {g : Operand} {assign body : Code} {Q : Exit → Act → World → Prop} {tmps : Array Value} {w : World} {gf : Nat} {lb : Array Value}
    (hg : ({ tmps := tmps, defers := [] } : Act).eval g = .func (.func gf) #[] lb) (eg : ∀ args w, (callFunc gf args).run Tryd.prog w = .ok (.enter gf args) w) {n0 : Nat} {L : List (Fin 256)}
    (hseq : TellsT 3 gf lb n0 L w) (hn0 : n0 ≤ w.heap.size)
    (I : Nat → World → Prop) (Ix : Code → Nat → World → Prop) (hI : AbT w.heap.size I) (hIx : ∀ c, AbT w.heap.size (Ix c)) (h0 : I 0 w)
    (hassign : ∀ (l : Nat) (x : Fin 256) (W : World) (K : Act → World → Prop), K { tmps := (tmps.setIfInBounds p (.int .u8 (x.1 : Int))).setIfInBounds q (.int .u8 (x.1 : Int)), defers := [] } W →
      assign.wpIn (Fence.wide.inRound l) 2 Tryd.prog (Exit.then K (fun _ _ _ => False)) { tmps := tmps.setIfInBounds p (.int .u8 (x.1 : Int)), defers := [] } W)
    (hbody : ∀ (l k : Nat) (h : k < L.length) (W : World), I k W → body.wpIn (Fence.wide.inRound l) 2 Tryd.prog (postT n0 I Ix (k + 1) W) { tmps := (tmps.setIfInBounds p (.int .u8 (L[k].1 : Int))).setIfInBounds q (.int .u8 (L[k].1 : Int)), defers := [] } W)
    (hdone : ∀ (D : Nat) (W : World), w.heap.size ≤ D → I L.length W → W.heap[D]? = some (.deferred (some [])) → Q .normal { tmps := tmps, defers := [{ target := .collected D, args := #[] }] } W)
    (hstop : ∀ (D : Nat) (c : Code) (k : Nat) (W : World), w.heap.size ≤ D → k < L.length → Ix c (k + 1) W → W.heap[D]? = some (.deferred (some [])) →
      c.wp Tryd.prog Q { tmps := tmps, defers := [{ target := .collected D, args := #[] }] } W) :
    (Code.rangeFunc g #[p] assign body).wp Tryd.prog Q { tmps := tmps, defers := [] } w := by
  refine (wpIn_wide (n := 4)).1 ?_
  exact wp_told (n := 4) (by omega) hg eg hseq (Below.refl _ _) hn0 rfl I Ix hI hIx h0 (fun x => { tmps := (tmps.setIfInBounds p (.int .u8 (x.1 : Int))).setIfInBounds q (.int .u8 (x.1 : Int)), defers := [] })
    (fun l x W K hK => by
      have h := hassign l x W K hK
      simpa [encB] using h) hbody hdone (fun D c k W h1 h2 h3 h4 => wpIn_wide.2 (hstop D c k W h1 h2 h3 h4))

/-- An ending without a panic. -/
def calmQ (Q : Exit → Act → World → Prop) : Exit → Act → World → Prop
  | .panic _, _, _ => False
  | .normal, a, w => Q .normal a w
  | .ret, a, w => Q .ret a w
  | .exit id, a, w => Q (.exit id) a w
  | .goto t, a, w => Q (.goto t) a w
  | .outgrown, a, w => Q .outgrown a w
theorem calmQ_is {Q : Exit → Act → World → Prop} (e : Exit) (a : Act) (w : World) (h : calmQ Q e a w) : Q e a w := by
  cases e <;> first | exact h | exact h.elim

set_option maxHeartbeats 8000000 in
set_option maxRecDepth 100000 in
theorem tell_walk (f : Nat → BitVec 64) (c : Nat) (many : Int) (w : World) (hc : c < 256) (hm1 : -9223372036854775808 ≤ many) (hm2 : many ≤ 9223372036854775807) (hT : Tab w) :
    Calls Tryd.prog 5 #[.agg (row4 f), .int .u8 (c : Int), .int .i64 many] w (Yes w) := by
  have HT := Lib.hid hT
  have HC := Lib.hid hc
  have HM1 := Lib.hid hm1
  have HM2 := Lib.hid hm2
  have hTb : 0 < w.heap.size := World.block_lt_of_cell? w _ (hT 0 (by omega))
  have HTB := Lib.hid hTb
  clear hT hc hm1 hm2 hTb
  refine (callsIn_wide (n := 4)).1 ?_
  refine callsIn_of_wp_marks Tryd.func5 rfl trivial ?_ rfl
  simp only [Tryd.ntmps5, List.size_toArray, List.length_cons, List.length_nil, Nat.reduceAdd, Nat.reduceSub, Array.replicate_succ, Array.replicate_zero, List.push_toArray, List.append_toArray, List.nil_append, List.cons_append]
  refine wpIn_mono (Q := calmQ (bodyPostM Fence.wide 4 Tryd.prog Tryd.f5 (Yes w))) ?_ calmQ_is
  refine wpIn_wide.2 ?_
  have HA := Lib.hid ((H4.new w f).alloc (.cells #[.bool false] 4))
  have hRr := Boxed.new (w.alloc (.cells (row4 f) 24)) 4 (.bool false)
  rw [World.size_alloc] at hRr
  have HR := Lib.hid hRr
  clear hRr
  have HB := Lib.hid (bl_alloc (bl_alloc (Below.refl w.heap.size w) (.cells (row4 f) 24)) (.cells #[.bool false] 4))
  go_wp2_with (refine wpList_load_row rfl 24 _ rfl w.heap.size rfl 24 _ (0, 0) _ HA.out Tryd.underlying24 rfl (by rw [size4, row4_size]) ?_)
  refine (refAll_any f _).mono ?_
  rintro e w1 ⟨v, rfl, ho, hb1⟩
  have ho := ho.more HB.out.size
  obtain ⟨A, n, cp, rfl, HL, hnc, hcm, hr⟩ := ho.form
  have hn256 : n ≤ 256 := by rw [← HL.out, bytesL_len]; exact elems_le' f
  have hlen : (elems f).length = n := by rw [← bytesL_len]; exact HL.out
  have HLN := Lib.hid hlen
  have HA1 := Lib.hid ((HA.out.below hb1).alloc (.cells #[.slice A n cp] 30))
  have HR1 := Lib.hid (((HR.out.kept (grown_of_below hb1 none) (by simp))).alloc (.cells #[.slice A n cp] 30))
  have HO1 := Lib.hid (ho.alloc (.cells #[.slice A n cp] 30))
  have hW1 := Boxed.new w1 30 (.slice A n cp)
  have HB1 := Lib.hid (bl_alloc (bl_trans HB.out hb1) (.cells #[.slice A n cp] 30))
  obtain ⟨g1, hg1⟩ : ∃ g1, w1.heap.size = g1 := ⟨_, rfl⟩
  have hgr : w.heap.size + 2 ≤ g1 := by have := hb1.size; simp at this; omega
  obtain ⟨y, b, hy, hb, hy2⟩ := least_vals (elems f) (elems_lt f)
  have HY := Lib.hid hy
  have HBV := Lib.hid hb
  rw [hg1] at hW1
  have HW1 := Lib.hid hW1
  clear hlen hr hnc hcm ho hb1 HA HR HB hy hb hy2 hW1
  go_wp2_with (refine wpList_load_row rfl 24 _ rfl w.heap.size rfl 24 _ (0, 0) _ HA1.out Tryd.underlying24 rfl (by rw [size4, row4_size]) ?_)
  clear hg1
  generalize w1.alloc (.cells #[.slice A n cp] 30) = w2 at *
  refine (least_any f _ (HT.out.below HB1.out)).mono ?_
  rintro e w3 ⟨rfl, hb⟩
  rw [leastV_eq, HY.out, HBV.out]
  have HA3 := Lib.hid (HA1.out.below hb)
  have HR3 := Lib.hid (HR1.out.kept (grown_of_below hb none) (by simp))
  have HW3 := Lib.hid (HW1.out.kept (grown_of_below hb none) (by simp))
  have HO3 := Lib.hid (HO1.out.below hb)
  have HB3 := Lib.hid (bl_trans HB1.out hb)
  clear hb HA1 HR1 HW1 HO1 HB1
  go_wp2_with (refine wpList_load_row rfl 24 _ rfl w.heap.size rfl 24 _ (0, 0) _ HA3.out Tryd.underlying24 rfl (by rw [size4, row4_size]) ?_)
  refine (refLeast_any f _).mono ?_
  rintro e w4 ⟨rfl, hb⟩
  rw [leastV_eq, HY.out, HBV.out]
  have hA4 := HA3.out.below hb
  have hR4 : Boxed w4 (w.heap.size + 1) 4 (.bool false) := HR3.out.kept (grown_of_below hb none) (by simp)
  have hW4 := HW3.out.kept (grown_of_below hb none) (by simp)
  have hO4 := HO3.out.below hb
  have hB4 := bl_trans HB3.out hb
  clear hb HA3 HR3 HW3 HO3 HB3
  go_upto_region 4 with fail
  refine wp_region_held_drew (S := fun w' => H4 w' w.heap.size f ∧ Boxed w' (w.heap.size + 1) 4 (.bool false) ∧ Boxed w' g1 30 (.slice A n cp) ∧ Own w' w.heap.size (.slice A n cp) (bytesL f) ∧ Below w.heap.size w w') (by kernel_rfl) ⟨hA4.drew, hR4, hW4, hO4, hB4.drew⟩ (fun hHeld => ?_)
  clear hA4 hR4 hW4 hO4 hB4
  obtain ⟨x, hx⟩ : ∃ x, has f c = x := ⟨_, rfl⟩
  have HX := Lib.hid hx
  clear hx
  refine wpAnyH_take (i := 0) (v := .agg (row4 f)) rfl (by kernel_rfl) (by kernel_rfl) (by kernel_rfl) (fun _ _ _ h => h) (yields_set (by rfl) (.tmp 3) rfl w.heap.size rfl f (fun _ h => h.1)) hHeld ?_
  try simp only [List.getElem_toArray, List.getElem_cons_zero, List.getElem_cons_succ, Act.put, List.setIfInBounds_toArray, List.set_cons_zero, List.set_cons_succ]
  refine wpAnyH_take (i := 1) (v := ?vzt1) rfl (by kernel_rfl) (by kernel_rfl) (by kernel_rfl) (fun _ _ _ h => h) (Or.inl ⟨by rfl, ?yzt1⟩) hHeld ?rzt1
  case yzt1 => (intro wS hSw; clear hSw; go_simp; try (with_reducible rfl))
  try simp only [List.getElem_toArray, List.getElem_cons_zero, List.getElem_cons_succ, Act.put, List.setIfInBounds_toArray, List.set_cons_zero, List.set_cons_succ]
  refine wpAnyH_take (i := 3) (v := .agg (row4 f)) rfl (by kernel_rfl) (by kernel_rfl) (by kernel_rfl) (fun _ _ _ h => h) (yields_set (by rfl) (.tmp 3) rfl w.heap.size rfl f (fun _ h => h.1)) hHeld ?_
  try simp only [List.getElem_toArray, List.getElem_cons_zero, List.getElem_cons_succ, Act.put, List.setIfInBounds_toArray, List.set_cons_zero, List.set_cons_succ]
  refine wpAnyH_take (i := 4) (v := ?vzt4) rfl (by kernel_rfl) (by kernel_rfl) (by kernel_rfl) (fun _ _ _ h => h) (Or.inl ⟨by rfl, ?yzt4⟩) hHeld ?rzt4
  case yzt4 => (intro wS hSw; clear hSw; go_simp; try (with_reducible rfl))
  try simp only [List.getElem_toArray, List.getElem_cons_zero, List.getElem_cons_succ, Act.put, List.setIfInBounds_toArray, List.set_cons_zero, List.set_cons_succ]
  refine wpAnyH_ready (rs := [2]) (by kernel_rfl) (by simp) (AllReadyH.cons rfl (fun K hK => ?_) AllReadyH.nil)
  go_simp
  go_at_call 22
  refine (has_any f c HC.out _).mono ?_
  rintro e w5 ⟨rfl, hb1⟩
  have hg1 := grown_of_below hb1 none
  have hS1 := And.intro (hHeld.1.below hb1) (And.intro (hHeld.2.1.kept hg1 (by simp)) (And.intro (hHeld.2.2.1.kept hg1 (by simp)) (And.intro (hHeld.2.2.2.1.below hb1) (bl_trans hHeld.2.2.2.2 hb1))))
  clear hg1
  clear hHeld hb1
  go_wp2_with fail
  refine hK.out _ _ hS1 (fun hHeld => ?_)
  clear hK K hS1
  try simp only [List.getElem_toArray, List.getElem_cons_zero, List.getElem_cons_succ, Act.put, List.setIfInBounds_toArray, List.set_cons_zero, List.set_cons_succ]
  refine wpAnyH_ready (rs := [5]) (by kernel_rfl) (by simp) (AllReadyH.cons rfl (fun K hK => ?_) AllReadyH.nil)
  go_simp
  go_at_call 23
  refine (refHas_any f c HC.out _).mono ?_
  rintro e w6 ⟨rfl, hb1⟩
  have hg1 := grown_of_below hb1 none
  have hS1 := And.intro (hHeld.1.below hb1) (And.intro (hHeld.2.1.kept hg1 (by simp)) (And.intro (hHeld.2.2.1.kept hg1 (by simp)) (And.intro (hHeld.2.2.2.1.below hb1) (bl_trans hHeld.2.2.2.2 hb1))))
  clear hg1
  clear hHeld hb1
  go_wp2_with fail
  refine hK.out _ _ hS1 (fun hHeld => ?_)
  clear hK K hS1
  try simp only [List.getElem_toArray, List.getElem_cons_zero, List.getElem_cons_succ, Act.put, List.setIfInBounds_toArray, List.set_cons_zero, List.set_cons_succ]
  refine wpAnyH_take (i := 6) (v := ?vzt6) rfl (by kernel_rfl) (by kernel_rfl) (by kernel_rfl) (fun _ _ _ h => h) (Or.inl ⟨by rfl, ?yzt6⟩) hHeld ?rzt6
  case yzt6 => (intro wS hSw; clear hSw; go_simp; try (with_reducible rfl))
  try simp only [List.getElem_toArray, List.getElem_cons_zero, List.getElem_cons_succ, Act.put, List.setIfInBounds_toArray, List.set_cons_zero, List.set_cons_succ]
  refine wpAnyH_take (i := 7) (v := ?vzt7) rfl (by kernel_rfl) (by kernel_rfl) (by kernel_rfl) (fun _ _ _ h => h) (Or.inl ⟨by rfl, ?yzt7⟩) hHeld ?rzt7
  case yzt7 => (intro wS hSw; clear hSw; go_simp; try (with_reducible rfl))
  try simp only [List.getElem_toArray, List.getElem_cons_zero, List.getElem_cons_succ, Act.put, List.setIfInBounds_toArray, List.set_cons_zero, List.set_cons_succ]
  refine wpAnyH_take (i := 8) (v := .agg (row4 f)) rfl (by kernel_rfl) (by kernel_rfl) (by kernel_rfl) (fun _ _ _ h => h) (yields_set (by rfl) (.tmp 3) rfl w.heap.size rfl f (fun _ h => h.1)) hHeld ?_
  try simp only [List.getElem_toArray, List.getElem_cons_zero, List.getElem_cons_succ, Act.put, List.setIfInBounds_toArray, List.set_cons_zero, List.set_cons_succ]
  refine wpAnyH_take (i := 10) (v := ?vzt10) rfl (by kernel_rfl) (by kernel_rfl) (by kernel_rfl) (fun _ _ _ h => h) (Or.inl ⟨by rfl, ?yzt10⟩) hHeld ?rzt10
  case yzt10 => (intro wS hSw; have hcl := hSw.2.2.1.cell; clear hSw; go_simp; try (with_reducible rfl))
  try simp only [List.getElem_toArray, List.getElem_cons_zero, List.getElem_cons_succ, Act.put, List.setIfInBounds_toArray, List.set_cons_zero, List.set_cons_succ]
  refine wpAnyH_take (i := 11) (v := ?vzt11) rfl (by kernel_rfl) (by kernel_rfl) (by kernel_rfl) (fun _ _ _ h => h) (Or.inl ⟨by rfl, ?yzt11⟩) hHeld ?rzt11
  case yzt11 => (intro wS hSw; clear hSw; go_simp; try (with_reducible rfl))
  try simp only [List.getElem_toArray, List.getElem_cons_zero, List.getElem_cons_succ, Act.put, List.setIfInBounds_toArray, List.set_cons_zero, List.set_cons_succ]
  refine wpAnyH_ready (rs := [9]) (by kernel_rfl) (by simp) (AllReadyH.cons rfl (fun K hK => ?_) AllReadyH.nil)
  go_simp
  go_at_call 24
  refine (len_of f n HLN.out _).mono ?_
  rintro e w7 ⟨rfl, hb1⟩
  have hg1 := grown_of_below hb1 none
  have hS1 := And.intro (hHeld.1.below hb1) (And.intro (hHeld.2.1.kept hg1 (by simp)) (And.intro (hHeld.2.2.1.kept hg1 (by simp)) (And.intro (hHeld.2.2.2.1.below hb1) (bl_trans hHeld.2.2.2.2 hb1))))
  clear hg1
  clear hHeld hb1
  go_wp2_with fail
  refine hK.out _ _ hS1 (fun hHeld => ?_)
  clear hK K hS1
  try simp only [List.getElem_toArray, List.getElem_cons_zero, List.getElem_cons_succ, Act.put, List.setIfInBounds_toArray, List.set_cons_zero, List.set_cons_succ]
  refine wpAnyH_take (i := 12) (v := ?vzt12) rfl (by kernel_rfl) (by kernel_rfl) (by kernel_rfl) (fun _ _ _ h => h) (Or.inl ⟨by rfl, ?yzt12⟩) hHeld ?rzt12
  case yzt12 => (intro wS hSw; clear hSw; go_simp; try (with_reducible rfl))
  try simp only [List.getElem_toArray, List.getElem_cons_zero, List.getElem_cons_succ, Act.put, List.setIfInBounds_toArray, List.set_cons_zero, List.set_cons_succ]
  refine wpAnyH_take (i := 13) (v := ?vzt13) rfl (by kernel_rfl) (by kernel_rfl) (by kernel_rfl) (fun _ _ _ h => h) (Or.inl ⟨by rfl, ?yzt13⟩) hHeld ?rzt13
  case yzt13 => (intro wS hSw; clear hSw; go_simp; try (with_reducible rfl))
  try simp only [List.getElem_toArray, List.getElem_cons_zero, List.getElem_cons_succ, Act.put, List.setIfInBounds_toArray, List.set_cons_zero, List.set_cons_succ]
  refine wpAnyH_take (i := 14) (v := ?vzt14) rfl (by kernel_rfl) (by kernel_rfl) (by kernel_rfl) (fun _ _ _ h => h) (Or.inl ⟨by rfl, ?yzt14⟩) hHeld ?rzt14
  case yzt14 => (intro wS hSw; clear hSw; go_simp; try (with_reducible rfl))
  try simp only [List.getElem_toArray, List.getElem_cons_zero, List.getElem_cons_succ, Act.put, List.setIfInBounds_toArray, List.set_cons_zero, List.set_cons_succ]
  refine wpAnyH_take (i := 15) (v := ?vzt15) rfl (by kernel_rfl) (by kernel_rfl) (by kernel_rfl) (fun _ _ _ h => h) (Or.inl ⟨by rfl, ?yzt15⟩) hHeld ?rzt15
  case yzt15 => (intro wS hSw; clear hSw; go_simp; try (with_reducible rfl))
  try simp only [List.getElem_toArray, List.getElem_cons_zero, List.getElem_cons_succ, Act.put, List.setIfInBounds_toArray, List.set_cons_zero, List.set_cons_succ]
  refine wpAnyH_take (i := 16) (v := ?vzt16) rfl (by kernel_rfl) (by kernel_rfl) (by kernel_rfl) (fun _ _ _ h => h) (Or.inl ⟨by rfl, ?yzt16⟩) hHeld ?rzt16
  case yzt16 => (intro wS hSw; clear hSw; go_simp; try (with_reducible rfl))
  try simp only [List.getElem_toArray, List.getElem_cons_zero, List.getElem_cons_succ, Act.put, List.setIfInBounds_toArray, List.set_cons_zero, List.set_cons_succ]
  refine wpAnyH_take (i := 17) (v := ?vzt17) rfl (by kernel_rfl) (by kernel_rfl) (by kernel_rfl) (fun _ _ _ h => h) (Or.inl ⟨by rfl, ?yzt17⟩) hHeld ?rzt17
  case yzt17 => (intro wS hSw; clear hSw; go_simp; try (with_reducible rfl))
  try simp only [List.getElem_toArray, List.getElem_cons_zero, List.getElem_cons_succ, Act.put, List.setIfInBounds_toArray, List.set_cons_zero, List.set_cons_succ]
  refine wpAnyH_take (i := 18) (v := ?vzt18) rfl (by kernel_rfl) (by kernel_rfl) (by kernel_rfl) (fun _ _ _ h => h) (Or.inl ⟨by rfl, ?yzt18⟩) hHeld ?rzt18
  case yzt18 => (intro wS hSw; clear hSw; go_simp; try (with_reducible rfl))
  try simp only [List.getElem_toArray, List.getElem_cons_zero, List.getElem_cons_succ, Act.put, List.setIfInBounds_toArray, List.set_cons_zero, List.set_cons_succ]
  refine wpAnyH_take (i := 19) (v := ?vzt19) rfl (by kernel_rfl) (by kernel_rfl) (by kernel_rfl) (fun _ _ _ h => h) (Or.inl ⟨by rfl, ?yzt19⟩) hHeld ?rzt19
  case yzt19 => (intro wS hSw; clear hSw; go_simp; try (with_reducible rfl))
  try simp only [List.getElem_toArray, List.getElem_cons_zero, List.getElem_cons_succ, Act.put, List.setIfInBounds_toArray, List.set_cons_zero, List.set_cons_succ]
  refine wpAnyH_take (i := 20) (v := ?vzt20) rfl (by kernel_rfl) (by kernel_rfl) (by kernel_rfl) (fun _ _ _ h => h) (Or.inl ⟨by rfl, ?yzt20⟩) hHeld ?rzt20
  case yzt20 => (intro wS hSw; clear hSw; go_simp; try (with_reducible rfl))
  try simp only [List.getElem_toArray, List.getElem_cons_zero, List.getElem_cons_succ, Act.put, List.setIfInBounds_toArray, List.set_cons_zero, List.set_cons_succ]
  refine wpAnyH_take (i := 21) (v := ?vzt21) rfl (by kernel_rfl) (by kernel_rfl) (by kernel_rfl) (fun _ _ _ h => h) (Or.inl ⟨by rfl, ?yzt21⟩) hHeld ?rzt21
  case yzt21 => (intro wS hSw; clear hSw; go_simp; try (with_reducible rfl))
  try simp only [List.getElem_toArray, List.getElem_cons_zero, List.getElem_cons_succ, Act.put, List.setIfInBounds_toArray, List.set_cons_zero, List.set_cons_succ]
  refine wpAnyH_take (i := 22) (v := ?vzt22) rfl (by kernel_rfl) (by kernel_rfl) (by kernel_rfl) (fun _ _ _ h => h) (Or.inl ⟨by rfl, ?yzt22⟩) hHeld ?rzt22
  case yzt22 => (intro wS hSw; clear hSw; go_simp; try (with_reducible rfl))
  try simp only [List.getElem_toArray, List.getElem_cons_zero, List.getElem_cons_succ, Act.put, List.setIfInBounds_toArray, List.set_cons_zero, List.set_cons_succ]
  refine wpAnyH_take (i := 23) (v := ?vzt23) rfl (by kernel_rfl) (by kernel_rfl) (by kernel_rfl) (fun _ _ _ h => h) (Or.inl ⟨by rfl, ?yzt23⟩) hHeld ?rzt23
  case yzt23 => (intro wS hSw; clear hSw; go_simp; try (with_reducible rfl))
  try simp only [List.getElem_toArray, List.getElem_cons_zero, List.getElem_cons_succ, Act.put, List.setIfInBounds_toArray, List.set_cons_zero, List.set_cons_succ]
  refine wpAnyH_done (by kernel_rfl) ?_ _
  obtain ⟨h4, hR, hW, hO, hB⟩ := hHeld
  obtain ⟨j, hj, Hj, HCL⟩ := bring_nat many (n + 1) HM1.out HM2.out (by omega) (by omega)
  obtain ⟨N, hN⟩ : ∃ N, n + 1 = N := ⟨_, rfl⟩
  rw [hN] at hj HCL
  have eN : (n : Int) + 1 = (N : Int) := by omega
  have HN := Lib.hid hN
  have hcW := hW.cell
  have hX1 := (h4.alloc (.cells #[.int .i64 (j : Int)] 3)).alloc (.cells #[.int .i64 0] 3)
  have hX2 := hX1.alloc (.cells (row4 f) 24)
  have HX1 := Lib.hid hX1
  have HX2 := Lib.hid hX2
  have HJ := Lib.hid hj
  have hfn := fun (B : Nat) (W : World) => func_nil B W
  have hJb := ((Boxed.new w7 3 (.int .i64 (j : Int))).alloc (.cells #[.int .i64 0] 3)).alloc (.cells (row4 f) 24) |>.alloc (.cells (row4 f) 24)
  have hAb := ((Boxed.new (w7.alloc (.cells #[.int .i64 (j : Int)] 3)) 3 (.int .i64 0)).alloc (.cells (row4 f) 24)).alloc (.cells (row4 f) 24)
  have hRb := (((hR.alloc (.cells #[.int .i64 (j : Int)] 3)).alloc (.cells #[.int .i64 0] 3)).alloc (.cells (row4 f) 24)).alloc (.cells (row4 f) 24)
  have hWb := (((hW.alloc (.cells #[.int .i64 (j : Int)] 3)).alloc (.cells #[.int .i64 0] 3)).alloc (.cells (row4 f) 24)).alloc (.cells (row4 f) 24)
  have hOb := (((hO.alloc (.cells #[.int .i64 (j : Int)] 3)).alloc (.cells #[.int .i64 0] 3)).alloc (.cells (row4 f) 24)).alloc (.cells (row4 f) 24)
  have hBb := bl_alloc (bl_alloc (bl_alloc (bl_alloc hB (.cells #[.int .i64 (j : Int)] 3)) (.cells #[.int .i64 0] 3)) (.cells (row4 f) 24)) (.cells (row4 f) 24)
  have hXb := H4.new (((w7.alloc (.cells #[.int .i64 (j : Int)] 3)).alloc (.cells #[.int .i64 0] 3)).alloc (.cells (row4 f) 24)) f
  simp only [World.size_alloc] at hJb hAb hXb
  have hsz : ((((w7.alloc (.cells #[.int .i64 (j : Int)] 3)).alloc (.cells #[.int .i64 0] 3)).alloc (.cells (row4 f) 24)).alloc (.cells (row4 f) 24)).heap.size = w7.heap.size + 4 := by simp
  have hwl : w.heap.size + 2 ≤ w7.heap.size := by have := hR.lt; omega
  have hlt1 := hW.lt
  have HJb := Lib.hid hJb
  have HAb := Lib.hid hAb
  have HRb := Lib.hid hRb
  have HWb := Lib.hid hWb
  have HOb := Lib.hid hOb
  have HBb := Lib.hid hBb
  have HXb := Lib.hid hXb
  have HSz := Lib.hid hsz
  have HWl := Lib.hid hwl
  have HL1 := Lib.hid hlt1
  clear h4 hR hW hO hB hN hX1 hX2 hj hJb hAb hRb hWb hOb hBb hXb hsz hwl hlt1
  go_wp2_with fail
  refine (HCL.out _).mono ?_
  rintro e w8 ⟨rfl, rfl⟩
  go_wp2_with (first
    | (refine wpList_load_row rfl 24 _ rfl w.heap.size rfl 24 _ (0, 0) _ HX1.out Tryd.underlying24 rfl (by rw [size4, row4_size]) ?_)
    | (refine wpList_load_row rfl 24 _ rfl w.heap.size rfl 24 _ (0, 0) _ HX2.out Tryd.underlying24 rfl (by rw [size4, row4_size]) ?_)
    | (go_at_call 26; refine (all_make f _).mono ?_; rintro e w' ⟨rfl, rfl⟩))
  clear hfn
  have hlL : (finL (elems f)).length = n := by rw [finL_len]; exact HLN.out
  have hSz := HSz.out
  have hWl := HWl.out
  have hL1 := HL1.out
  have hTt := HT.out.below HBb.out
  have hBs := HBb.out.size
  generalize (((w7.alloc (.cells #[.int .i64 (j : Int)] 3)).alloc (.cells #[.int .i64 0] 3)).alloc (.cells (row4 f) 24)).alloc (.cells (row4 f) 24) = W0 at *
  generalize hh7 : w7.heap.size = h7 at *
  clear hcW HX1 HX2
  refine wp_told2 61 14 (gf := 34) (lb := #[.pointer (some ⟨h7 + 1 + 1 + 1, 0, none⟩)]) rfl (enters_of Tryd.func34 (by kernel_rfl) rfl)
    (all_tell 3 (h7 + 1 + 1 + 1) w.heap.size f (by omega) W0 hBs HXb.out hTt HTB.out) hBs
    (fun k W => Boxed W (h7 + 1) 3 (.int .i64 (k : Int)) ∧ (Boxed W h7 3 (.int .i64 (j : Int)) ∧ (Boxed W (w.heap.size + 1) 4 (.bool false) ∧ (Boxed W g1 30 (.slice A n cp) ∧ (Own W w.heap.size (.slice A n cp) (bytesL f) ∧ (k ≤ j ∧ Below w.heap.size w W))))))
    (fun c k W => c = .exit 0 ∧ (Boxed W (h7 + 1) 3 (.int .i64 (j : Int)) ∧ (Boxed W h7 3 (.int .i64 (j : Int)) ∧ (Boxed W (w.heap.size + 1) 4 (.bool false) ∧ Below w.heap.size w W))))
    (AbT.and (abT_boxed _ _ _ (fun k => .int .i64 (k : Int)) (by decide)) (AbT.and (abT_boxed _ _ _ (fun _ => .int .i64 (j : Int)) (by decide)) (AbT.and (abT_boxed _ _ _ (fun _ => .bool false) (by decide)) (AbT.and (abT_boxed _ _ _ (fun _ => .slice A n cp) (by decide)) (AbT.and (abT_own _ _ _ _) (AbT.and (abT_pure _ (fun k => k ≤ j)) (abT_below (Nat.le_refl _) hBs)))))))
    (fun c => AbT.and (abT_pure _ (fun _ => c = .exit 0)) (AbT.and (abT_boxed _ _ _ (fun _ => .int .i64 (j : Int)) (by decide)) (AbT.and (abT_boxed _ _ _ (fun _ => .int .i64 (j : Int)) (by decide)) (AbT.and (abT_boxed _ _ _ (fun _ => .bool false) (by decide)) (abT_below (Nat.le_refl _) hBs)))))
    ⟨HAb.out, HJb.out, HRb.out, HWb.out, HOb.out, by omega, HBb.out⟩ ?assign ?body ?done ?stop
  case assign =>
    intro l x W K hK
    try simp only [List.setIfInBounds_toArray, List.set_cons_zero, List.set_cons_succ] at hK
    try simp only [List.setIfInBounds_toArray, List.set_cons_zero, List.set_cons_succ]
    gi_wp2
    exact hK
  case body =>
    rintro l k hk W ⟨hat, hjb, hres, hwb, hown, hkj, hbl⟩
    try simp only [List.setIfInBounds_toArray, List.set_cons_zero, List.set_cons_succ]
    have hkb : k < (bytesL f).length := by rw [HL.out]; omega
    have hx := bytesL_at f k hk hkb
    unfold bv at hx
    have hxx : (((finL (elems f))[k]).1 : Int) = (((bytesL f)[k]).toNat : Int) := by
      simpa using hx
    rw [hxx]
    obtain ⟨g, hA, hcl⟩ := own_first hown (by omega)
    subst hA
    have hc74 := hcl k hkb
    generalize ((bytesL f)[k]).toNat = z at *
    have hca := hat.cell
    have hcj := hjb.cell
    have hcw := hwb.cell
    have hfa := hat.frozen
    have HAT := Lib.hid hat
    have HJB := Lib.hid hjb
    have HRS := Lib.hid hres
    have HWB := Lib.hid hwb
    have HOW := Lib.hid hown
    have HBL := Lib.hid hbl
    have hkn : k < n := by omega
    have hd1 : decide ((n : Int) ≤ (k : Int)) = false := decide_eq_false (by omega)
    clear hat hjb hres hwb hown hbl hx hxx hcl HAb HJb HRb HWb HOb HBb HXb
    by_cases hkj2 : k = j
    · subst hkj2
      gi_wp2
      exact ⟨KeepsOthers.refl _, rfl, HAT.out, HJB.out, HRS.out, HBL.out⟩
    · have hne : ((k : Int) == (j : Int)) = false := beq_eq_false_iff_ne.2 (by omega)
      gi_wp2
      refine ⟨KeepsOthers.setCell _ _ _, ⟨(Below.refl _ W).setCell (p := ⟨h7 + 1, 0, none⟩) (by dsimp only; omega) _, fun i hi => ?_⟩, ?_, HJB.out.other (by omega) _, HRS.out.other (by omega) _, HWB.out.other (by omega) _, ?_, by omega, HBL.out.setCell (p := ⟨h7 + 1, 0, none⟩) (by dsimp only; omega) _⟩
      · refine Below.heap_setCell _ _ _ _ (fun e => ?_)
        obtain ⟨cs, hc⟩ := hi
        rw [show i = h7 + 1 from e, show W.heap[h7 + 1]? = _ from HAT.out] at hc
        simp at hc
      · have := HAT.out.set (.int .i64 ((k : Int) + 1))
        simpa using this
      · exact HOW.out.kept (grownBy_setCell' W (h7 + 1) _) (by
          cases hb : (Value.slice (some ⟨g, 0, none⟩) n cp).ownBlock with
          | none => exact .inl rfl
          | some q =>
            refine .inr fun e => ?_
            cases e
            have := HOW.out.notInt HAT.out
            exact this hb)
  case done =>
    rintro D W hD ⟨hat, hjb, hres, hwb, hown, hkj, hbl⟩ hK
    rw [hlL] at hat hkj
    have hjn : n = j := by have := HN.out; have := HJ.out; omega
    have hca := hat.cell
    have hcj := hjb.cell
    rw [← hjn] at hcj
    have HRS := Lib.hid hres
    have HBL := Lib.hid hbl
    have HK := Lib.hid hK
    clear hat hjb hres hwb hown hbl hK HAb HJb HRb HWb HOb HBb HXb hjn hkj
    go_wp2_with fail
    refine (works_any _ (HT.out.below HBL.out)).mono ?_
    rintro e w9 ⟨rfl, hb9⟩
    have HR9 := Lib.hid (HRS.out.kept (grown_of_below hb9 none) (by simp))
    have HB9 := Lib.hid (bl_trans HBL.out hb9)
    have HK9 : Hid (_ = _) := Lib.hid ((hb9.block D (Array.getElem?_eq_some_iff.1 HK.out).1).trans HK.out)
    have hc9 := HR9.out.cell
    have hf9 := HR9.out.frozen
    clear hb9 HRS HBL HK
    go_wp2
    have hK10 : (w9.setCell ⟨w.heap.size + 1, 0, none⟩ (.bool true)).heap[D]? = some (.deferred (some [])) := (Below.heap_setCell _ _ _ _ (show D ≠ w.heap.size + 1 by omega)).trans HK9.out
    have hR10 := HR9.out.set (.bool true)
    have hR11 : Boxed ((w9.setCell ⟨w.heap.size + 1, 0, none⟩ (.bool true)).putObj D (.deferred none)) (w.heap.size + 1) 4 (.bool true) := hR10.kept (grownBy_putObj' _ _ _) (by simp; omega)
    have hc11 := hR11.cell
    refine ⟨by simp, .inl ⟨_, _, rfl, run_takeDeferred hK10, ?_⟩⟩
    refine ⟨.bool true, by simp [results, Tryd.results5, go_sem, hc11], rfl, ?_⟩
    exact ((HB9.out.setCell (p := ⟨w.heap.size + 1, 0, none⟩) (by dsimp only; omega) _)).trans (belowK_b (w := w) (Nat.le_refl _) _ D _ _ (by omega) hK10 rfl rfl)
  case stop =>
    rintro D c' k W hD hk ⟨rfl, hat, hjb, hres, hbl⟩ hK
    have hca := hat.cell
    have hcj := hjb.cell
    have HRS := Lib.hid hres
    have HBL := Lib.hid hbl
    have HK := Lib.hid hK
    clear hat hjb hres hbl hK HAb HJb HRb HWb HOb HBb HXb
    go_wp2_with fail
    refine (works_any _ (HT.out.below HBL.out)).mono ?_
    rintro e w9 ⟨rfl, hb9⟩
    have HR9 := Lib.hid (HRS.out.kept (grown_of_below hb9 none) (by simp))
    have HB9 := Lib.hid (bl_trans HBL.out hb9)
    have HK9 : Hid (_ = _) := Lib.hid ((hb9.block D (Array.getElem?_eq_some_iff.1 HK.out).1).trans HK.out)
    have hc9 := HR9.out.cell
    have hf9 := HR9.out.frozen
    clear hb9 HRS HBL HK
    go_wp2
    have hK10 : (w9.setCell ⟨w.heap.size + 1, 0, none⟩ (.bool true)).heap[D]? = some (.deferred (some [])) := (Below.heap_setCell _ _ _ _ (show D ≠ w.heap.size + 1 by omega)).trans HK9.out
    have hR10 := HR9.out.set (.bool true)
    have hR11 : Boxed ((w9.setCell ⟨w.heap.size + 1, 0, none⟩ (.bool true)).putObj D (.deferred none)) (w.heap.size + 1) 4 (.bool true) := hR10.kept (grownBy_putObj' _ _ _) (by simp; omega)
    have hc11 := hR11.cell
    refine ⟨by simp, .inl ⟨_, _, rfl, run_takeDeferred hK10, ?_⟩⟩
    refine ⟨.bool true, by simp [results, Tryd.results5, go_sem, hc11], rfl, ?_⟩
    exact ((HB9.out.setCell (p := ⟨w.heap.size + 1, 0, none⟩) (by dsimp only; omega) _)).trans (belowK_b (w := w) (Nat.le_refl _) _ D _ _ (by omega) hK10 rfl rfl)

theorem laid_met (os : Os) : laidMet Tryd.prog laidL ((laidWorld os).forCall (fun _ _ => 0) ⟨#[], #[.agg (row4 nilW), .int .u8 0, .int .i64 0], []⟩).memory :=
  laidMet_of_run' 8 (by kernel_rfl) (by kernel_rfl)
theorem reads (os : Os) {H : Type} (enc : TypeId × Value → H) : ∃ places, DataW.whole enc Tryd.prog ((laidWorld os).forCall (fun _ _ => 0) ⟨#[], #[.agg (row4 nilW), .int .u8 0, .int .i64 0], []⟩).memory Tryd.f5.params.toList Rows.setsTellSpec.vars false (#[.agg (row4 nilW), .int .u8 0, .int .i64 0] : Array Value).toList 8 = some ([.agg [.lit (.int .u64 0), .lit (.int .u64 0), .lit (.int .u64 0), .lit (.int .u64 0)], .lit (.int .u8 0), .lit (.int .i64 0)], [], places) :=
  ⟨[], by kernel_rfl⟩
set_option maxRecDepth 100000 in
theorem SetsTell_said : Rows.SetsTellSaid :=
  OpenClaim.holds_of_cond 5 Tryd.f5 rfl rfl rfl rfl rfl rfl rfl ⟨rfl, rfl, rfl, rfl, rfl⟩ rfl rfl rfl rfl rfl (by kernel_rfl) Tryd.func5 (by kernel_rfl)
    (of_decide_eq_true (by kernel_rfl)) (by unfold Func.isWrapper; first | (rw [if_pos (by decide +kernel)]; kernel_rfl) | (rw [if_neg (by decide +kernel)]; exact ⟨rfl, rfl⟩))
    (fun os started H enc _ F => by
      rw [OpenClaim.pre_eq_preRow]
      obtain ⟨places, hx⟩ := reads os enc
      exact law_lifted_laid (s := Rows.setsTellSpec) (conds := Rows.setsTellRow.domain) Tryd.func5 (by kernel_rfl) rfl
        (fun H ds h => by rw [Tryd.params5] at h; match ds, h with | [_, _, _], _ => rfl) (by kernel_rfl) (by kernel_rfl) os started H enc F
        (witness_row_at (enc := enc) (C := Tryd.checked) false (laidWorld os) #[.agg (row4 nilW), .int .u8 0, .int .i64 0] rfl (by kernel_rfl) (by kernel_rfl) (by kernel_rfl)
          (OpenSpec.preRow_of_cond 8 hx (by kernel_rfl) (fun k hk => by cases hk) (by kernel_rfl) (laid_met os)))
        (fun W args ds p h hT => by
          obtain ⟨⟨base, hok⟩, hA, hl⟩ := h
          rw [Tryd.params5] at hok hA hl
          obtain ⟨v0, v1, v2, d0, d1, d2, p0, p1, p2, rfl, rfl, rfl, g0, g1, g2⟩ := trodAll_three hA
          obtain ⟨f0, rfl⟩ := open_set (hok 0 24 v0 rfl rfl) g0
          obtain ⟨n1, rfl, a1⟩ := open_u8 (hok 1 5 v1 rfl rfl) g1
          obtain ⟨n2, rfl, a2, b2⟩ := open_i64 (hok 2 3 v2 rfl rfl) g2
          exact tell_walk f0 n1 n2 W a1 a2 b2 hT))

theorem plain_params (f : FuncId) (fn : Func) (hf : Tryd.pinned.checked.prog.funcNamed "incunable/incunablelaw08.SetsTell" = some f) (hfn : Tryd.pinned.checked.prog.funcs[f]? = some fn) :
    false = Tryd.pinned.checked.prog.looks [] ∧ ∀ (j : Nat) t, fn.params[j]? = some t → Tryd.pinned.checked.prog.wantsStandIn t = false := by
  obtain rfl : f = 5 := Option.some.inj ((show Tryd.prog.funcNamed "incunable/incunablelaw08.SetsTell" = some 5 by kernel_rfl).symm.trans hf) |>.symm
  obtain rfl : fn = Tryd.f5 := (Option.some.inj (Tryd.func5.symm.trans hfn)).symm
  refine ⟨by kernel_rfl, fun j t ht => ?_⟩
  rw [Tryd.params5] at ht
  have hm : t ∈ [24, 5, 3] := by simpa using Array.mem_of_getElem? ht
  have hall : ([24, 5, 3].all fun u => !Tryd.prog.wantsStandIn u) = true := by kernel_rfl
  exact (show Tryd.prog.wantsStandIn t = false by simpa using List.all_eq_true.1 hall t hm)

/-- The card. -/
theorem SetsTellCard_holds : Rows.SetsTellCardSaid :=
  Claim7.holds_tied_plain_at .later [] _ _ _ _ SetsTell_said (fun _ h => by cases h) (by kernel_rfl) (fun _ h => by cases h) setsTell_row_tie rfl ⟨rfl, rfl⟩ (by kernel_rfl) rfl plain_params (by kernel_rfl)

end Go.Proofs.YtcgoacfcdlbhdaaDoor

