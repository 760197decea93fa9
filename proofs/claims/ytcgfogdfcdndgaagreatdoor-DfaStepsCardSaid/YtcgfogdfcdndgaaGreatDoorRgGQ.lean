/- The reader of patterns: joined, leaf, wayEnds, allButEnds. No condition. -/
import Derived.Test.YtcgfogdfcdndgaaGreatDoorRgEQ
import Derived.StillTailTactics
set_option linter.unusedVariables false
set_option linter.unusedSimpArgs false
namespace Go.Proofs.YtcgfogdfcdndgaaGreatDoor
open Go.RowKit

theorem joined_any {n0 g : Nat} {s r : List UInt8} {l : List RN} {w : World} (k a b : Int) (h : RdAt n0 g s r l w) (hm : l.length + 2 * r.length + 1 ≤ 2060) : Calls Tryz.prog 110 #[.pointer (some ⟨g, 0, none⟩), .int .i64 k, .int .i64 a, .int .i64 b] w
    (GotM w n0 g s r (l ++ [⟨k, a, b, nilS⟩]) (.int .i64 (l.length : Int))) := by
  have hb := built_join k a b
  have H := Lib.hid h
  clear h
  go_enter Tryz.func110, Tryz.ntmps110
  go_wp2_with fail
  refine (made_any ⟨k, a, b, nilS⟩ H.out hm).mono ?_
  rintro e w1 ⟨rfl, h1, hb1⟩
  have H1 := Lib.hid h1
  have HB1 := Lib.hid hb1
  clear h1 hb1
  go_wp2_with fail
  go_ret
  exact ⟨rfl, H1.out, HB1.out⟩

theorem wpList_leaf {ops : Array Oper} {rest : List Oper} {o : Oper} {a : Act} {w : World} {Q : Exit → Act → World → Prop} (z : S4) (x : Operand) (hg : o.guard = none) (ho : o.op = .build 147 #[(0, .const (.int .i64 2)), (1, x)]) (hx : a.eval x = encS z)
    (h : wpList Tryz.prog ops Q rest (a.put o.dst (aggR ⟨2, 0, 0, z⟩)) w) : wpList Tryz.prog ops Q (o :: rest) a w := by
  have hb := built_leaf 2 z
  have hc : a.eval (.const (.int .i64 2)) = .int .i64 2 := rfl
  refine wpList_build hg _ _ ho ?_ ?_
  · simp [hx, hc, hb]
  · simpa [hx, hc, hb, aggR] using h

set_option maxRecDepth 20000 in
theorem leaf_any {n0 g : Nat} {s r : List UInt8} {l : List RN} {w : World} (z : S4) (h : RdAt n0 g s r l w) (hm : l.length + 2 * r.length + 1 ≤ 2060) : Calls Tryz.prog 149 #[.pointer (some ⟨g, 0, none⟩), encS z] w
    (GotM w n0 g s r (l ++ [⟨2, 0, 0, z⟩]) (.int .i64 (l.length : Int))) := by
  have hb := built_leaf 2 z
  have b0 := bl_alloc (Below.refl w.heap.size w) (.cells (row4 z.f) 51)
  have H := Lib.hid (h.below b0)
  have HN : HS (w.alloc (.cells (row4 z.f) 51)) w.heap.size z := H4.new w z.f
  have C := Lib.hid HN
  have hlt := h.lt
  have hbase := h.base
  clear h HN b0
  unfold encS at hb
  show Calls Tryz.prog 149 #[.pointer (some ⟨g, 0, none⟩), .agg (row4 z.f)] w _
  go_enter Tryz.func149, Tryz.ntmps149
  go_wp2_with (first
    | (refine wpList_load_row rfl 51 _ rfl w.heap.size rfl 51 _ (0, 0) _ C.out Tryz.underlying51 rfl (by rw [size4, row4_size]) ?_)
    | (refine wpList_leaf z _ rfl rfl rfl ?_))
  refine (made_any ⟨2, 0, 0, z⟩ H.out hm).mono ?_
  rintro e w1 ⟨rfl, h1, hb1⟩
  have H1 := Lib.hid h1
  have HB1 := Lib.hid hb1
  clear h1 hb1 H C
  go_wp2_with fail
  go_ret
  exact ⟨rfl, H1.out, ((bl_alloc (Below.refl w.heap.size w) _).mono (by omega)).trans HB1.out⟩

set_option maxRecDepth 20000 in
theorem ends_any {n0 g : Nat} {s r : List UInt8} {l : List RN} {w : World} (h : RdAt n0 g s r l w) : Calls Tryz.prog 131 #[.pointer (some ⟨g, 0, none⟩)] w fun e w' => e = .returned (.bool (endsB r)) ∧ RdAt n0 g s r l w' ∧ Below w.heap.size w w' := by
  obtain ⟨k, HK, HL, hk, c0, c1, f1, HX⟩ := h.cells
  have hlen := fun ty => len_at s #[9] ty rfl
  have H := Lib.hid h
  clear h
  cases r with
  | nil =>
    have hkl : k = s.length := by have := HL.out; simpa using this
    have hb : (((k : Nat) : Int) == (s.length : Int)) = true := by rw [hkl]; simp
    clear hkl
    go_enter Tryz.func131, Tryz.ntmps131
    go_wp2_with (go_quiet (fail))
    go_ret
    have hB := bl_drewN (Below.refl w.heap.size w) nq
    exact ⟨rfl, H.out.below hB, hB⟩
  | cons x y =>
    have hkl : k < s.length := by have := HL.out; simp at this; omega
    have hb : (((k : Nat) : Int) == (s.length : Int)) = false := by simp; omega
    clear hkl
    go_enter Tryz.func131, Tryz.ntmps131
    go_wp2_with fail
    go_still_tail 13, (by kernel_rfl)
    change wpList _ _ _ _ _ w.drew
    have hB := bl_drewN (Below.refl w.heap.size w) 1
    have hI := H.out.below hB
    have HI := Lib.hid hI
    have HB : Hid (Below w.heap.size w w.drew) := Lib.hid hB
    have HI2 : Hid (RdAt n0 g s (x :: y) l w.drew) := Lib.hid hI
    clear hB hI HI
    generalize w.drew = w1 at *
    go_wp2_with fail
    refine (look_any HI2.out).mono ?_
    rintro e w2 ⟨rfl, h2, hb2⟩
    have H2 := Lib.hid h2
    have HB2 := Lib.hid (bl_trans HB.out hb2)
    clear h2 hb2
    go_wp2_with fail
    refine (has_list [124, 41] (look (x :: y)) _).mono ?_
    rintro e w3 ⟨rfl, rfl⟩
    have hE : hasB [124, 41] (look (x :: y)) = endsB (x :: y) := by
      rw [look_cons, endsB, look_cons, hasB]
      simp only [idxB]
      by_cases h1 : (124 : UInt8) = x
      · subst h1; rfl
      · by_cases h2 : (41 : UInt8) = x
        · subst h2; rfl
        · rw [if_neg h1, if_neg h2]
          simp [Ne.symm h1, Ne.symm h2]
    rw [hE]
    go_wp2_with fail
    go_ret
    exact ⟨rfl, H2.out, HB2.out⟩

set_option maxRecDepth 20000 in
theorem dot_any (w : World) : Calls Tryz.prog 151 #[] w (GotS w dotS) := by
  have hz := zero4
  have h0 := HS.new w
  have b0 := bl_alloc (Below.refl w.heap.size w) (.cells tab4 51)
  have H0 := Lib.hid h0
  have B0 := Lib.hid b0
  clear h0 b0
  go_enter Tryz.func151, Tryz.ntmps151
  go_wp2_with fail
  clear hz
  have hof := of_one 10 (w.alloc (.cells tab4 51))
  rw [World.size_alloc] at hof
  generalize w.alloc (.cells tab4 51) = w0 at *
  refine hof.mono ?_
  rintro e w1 ⟨rfl, hb1⟩
  have B1 := bl_trans (bl_alloc (Below.refl w0.heap.size w0) (.cells #[.int .u8 ((10 : UInt8).toNat : Int)] 5)) hb1
  have H1 := Lib.hid (H0.out.below B1)
  have C1 := Lib.hid (bl_trans B0.out B1)
  clear B1 hb1 H0 B0
  go_wp2_with fail
  refine (not_is (oneS 10) _).mono ?_
  rintro e w2 ⟨rfl, hb2⟩
  have H2 := Lib.hid (H1.out.below hb2)
  have C2 := Lib.hid (bl_trans C1.out hb2)
  clear hb2 H1 C1
  unfold encS
  go_wp2_with (refine wpList_store_row rfl 51 _ _ rfl w.heap.size _ rfl rfl 51 _ H2.out (by rw [size4, row4_size]) (by rw [row4_size, row4_size]) (row4_one _) ?_)
  refine bodyPost_ret (v := encS dotS) (results_cell_row rfl _ _ w.heap.size 51 _ (0, 0) _ rfl (setRow_heap _ _ _ _ _ _ H2.out) Tryz.underlying51 rfl (by rw [size4, row4_size])) rfl ⟨rfl, bl_setRow C2.out (by omega) _⟩

end Go.Proofs.YtcgfogdfcdndgaaGreatDoor

/- The reader of patterns: ways, way, piece, atom: what they read as a tree, laid as nodes. No condition. -/
set_option linter.unusedVariables false
set_option linter.unusedSimpArgs false
namespace Go.Proofs.YtcgfogdfcdndgaaGreatDoor
open Go.RowKit

/-- What a call of the reader answers that reads a tree. -/
def Reads (w : World) (n0 g : Nat) (s : List UInt8) (l : List RN) : Res Rx → Ending → World → Prop
  | .ok t r => GotM w n0 g s r (l ++ flat l.length t) (.int .i64 ((l.length + t.size - 1 : Nat) : Int))
  | .bad r => Threw w n0 s r
  | .out => fun _ _ => True
/-- The four, with so much fuel. -/
def Par (m : Md) (fn : Nat) (f : Nat) : Prop := ∀ (n0 g : Nat) (s r : List UInt8) (l : List RN) (w : World), RdAt n0 g s r l w → l.length + sizeM m r.length ≤ 2060 → parM f m r ≠ .out →
  Calls Tryz.prog fn #[.pointer (some ⟨g, 0, none⟩)] w (Reads w n0 g s l (parM f m r))
theorem flat_alt (l : List RN) (t u : Rx) : (l ++ flat l.length t) ++ flat (l ++ flat l.length t).length u ++ [⟨4, ((l.length + t.size - 1 : Nat) : Int), ((l.length + t.size + u.size - 1 : Nat) : Int), nilS⟩] = l ++ flat l.length (.alt t u) := by
  rw [List.length_append, flat_len, flat]
  simp [List.append_assoc]
theorem flat_seq (l : List RN) (t u : Rx) : (l ++ flat l.length t) ++ flat (l ++ flat l.length t).length u ++ [⟨3, ((l.length + t.size - 1 : Nat) : Int), ((l.length + t.size + u.size - 1 : Nat) : Int), nilS⟩] = l ++ flat l.length (.seq t u) := by
  rw [List.length_append, flat_len, flat]
  simp [List.append_assoc]
theorem len_flat (l : List RN) (t : Rx) : (l ++ flat l.length t).length = l.length + t.size := by rw [List.length_append, flat_len]

set_option maxRecDepth 20000 in
set_option maxHeartbeats 1000000 in
theorem ways_step (f : Nat) (ih : ∀ f', f' < f → Par .way 108 f') : Par .ways 95 f := by
  intro n0 g s r l w h hm hne
  obtain ⟨f, rfl⟩ : ∃ f', f = f' + 1 := by
    cases f with
    | zero => exact absurd rfl hne
    | succ f' => exact ⟨f', rfl⟩
  have hne1 : parM f .way r ≠ .out := by
    intro e
    apply hne
    rw [parM, e]
  have hway := ih f (by omega) n0 g s r l w h (by simp only [sizeM] at hm ⊢; omega) hne1
  generalize hQ : Reads w n0 g s l (parM (f + 1) .ways r) = Q
  have HQ := Lib.hid hQ
  have HW := Lib.hid hway
  have HM := Lib.hid hm
  have HNE := Lib.hid hne
  have IH := Lib.hid ih
  clear hQ hway h hm hne ih hne1
  go_enter Tryz.func95, Tryz.ntmps95
  go_wp2_with fail
  refine HW.out.mono ?_
  intro e w1 hd
  cases hd1 : parM f .way r with
  | out => exact absurd (by rw [parM, hd1]) HNE.out
  | bad r' =>
    rw [hd1] at hd
    obtain ⟨rfl, hb⟩ := hd
    have D1 := Lib.hid hd1
    have HB := Lib.hid hb
    clear hd1 hb
    go_wp2_with fail
    refine ⟨rfl, post_is HQ ?_⟩
    rw [parM, D1.out]
    exact ⟨rfl, HB.out⟩
  | ok t r1 =>
    rw [hd1] at hd
    obtain ⟨rfl, h1, hb⟩ := hd
    have D1 := Lib.hid hd1
    have hE : parM (f + 1) .ways r = parM f (.waysL t) r1 := by rw [parM, hd1]
    have hne2 : parM f (.waysL t) r1 ≠ .out := by rw [← hE]; exact HNE.out
    have H1 := Lib.hid h1
    have HB := Lib.hid hb
    have HE := Lib.hid hE
    have HN2 := Lib.hid hne2
    clear hd1 h1 hb hE hne2 HNE HW
    go_wp2_with fail
    go_loopg [3] f (fun k v wr => ∃ u r2, Hid (k ≤ f) ∧ v = .int .i64 ((l.length + u.size - 1 : Nat) : Int) ∧ Hid (parM k (.waysL u) r2 = parM f (.waysL t) r1) ∧ RdAt n0 g s r2 (l ++ flat l.length u) wr ∧ Below n0 w wr)
    case atStart => exact ⟨t, r1, Nat.le_refl _, rfl, rfl, H1.out, HB.out⟩
    case round =>
      clear H1 HB
      obtain ⟨u, r2, HK, rfl, HP, h2, hb2⟩ := hrel
      obtain ⟨k, rfl⟩ : ∃ k, gk = k + 1 := by
        cases gk with
        | zero => exact absurd (by rw [← HP.out]; rfl) HN2.out
        | succ k => exact ⟨k, rfl⟩
      have hbase := h2.base
      have hlt := h2.lt
      have hfew := h2.few
      rw [len_flat] at hfew
      have hsk := skips_any (l := l ++ flat l.length u) (b := 124) (by decide) h2
      have HB2 := Lib.hid hb2
      by_cases hx : look r2 = 124
      · have HX := Lib.hid hx
        rw [if_pos hx, decide_eq_true hx] at hsk
        have htl := look_tail hx (by decide)
        have HSK := Lib.hid hsk
        clear h2 hb2 hx hsk
        go_wp2_with fail
        refine HSK.out.mono ?_
        rintro e w3 ⟨rfl, h3, g3⟩
        have HB3 := Lib.hid (HB2.out.trans (below_of_grown g3 hbase hlt))
        have hne3 : parM k .way r2.tail ≠ .out := by
          intro e
          have := HP.out
          rw [parM, if_pos HX.out, e] at this
          exact HN2.out this.symm
        have hway := IH.out k (by have := HK.out; omega) n0 g s r2.tail (l ++ flat l.length u) w3 h3 (by rw [len_flat]; simp only [sizeM]; omega) hne3
        have HW2 := Lib.hid hway
        clear h3 g3 hway hne3 HSK HB2
        go_wp2_with fail
        refine HW2.out.mono ?_
        intro e w4 hd
        cases hd2 : parM k .way r2.tail with
        | out => exact absurd (by rw [← HP.out, parM, if_pos HX.out, hd2]) HN2.out
        | bad r' =>
          rw [hd2] at hd
          obtain ⟨rfl, hb⟩ := hd
          have D2 := Lib.hid hd2
          have HB := Lib.hid hb
          clear hd2 hb
          go_wp2_with fail
          refine ⟨rfl, post_is HQ ?_⟩
          rw [HE.out, ← HP.out, parM, if_pos HX.out, D2.out]
          exact ⟨rfl, HB3.out.trans HB.out⟩
        | ok t2 r3 =>
          rw [hd2] at hd
          obtain ⟨he4, h4, hb4⟩ := hd
          rw [len_flat] at he4
          subst he4
          have hsz := parM_size _ _ _ _ _ hd2
          simp only [sizeM] at hsz
          have D2 := Lib.hid hd2
          have H4 := Lib.hid h4
          have HB4 := Lib.hid (HB3.out.trans hb4)
          have hj := joined_any 4 ((l.length + u.size - 1 : Nat) : Int) ((l.length + u.size + t2.size - 1 : Nat) : Int) h4 (by rw [List.length_append, flat_len, len_flat]; omega)
          have HJ := Lib.hid hj
          clear hd2 h4 hb4 hj HB3 HW2
          go_wp2_with fail
          refine HJ.out.mono ?_
          rintro e w5 ⟨he5, h5, hb5⟩
          rw [List.length_append, flat_len, len_flat] at he5
          subst he5
          rw [flat_alt] at h5
          have H5 := Lib.hid h5
          have HB5 := Lib.hid (HB4.out.trans hb5)
          clear h5 hb5 HJ HB4 H4
          go_wp2_with fail
          go_roundg k
          case measure => omega
          case rel =>
            refine ⟨.alt u t2, r3, show k ≤ f by have := HK.out; omega, ?_, ?_, H5.out, HB5.out⟩
            · congr 1
              rw [Rx.size]
              omega
            · unfold Hid
              rw [← HP.out, parM, if_pos HX.out, D2.out]
      · have HX := Lib.hid hx
        rw [if_neg hx, decide_eq_false hx] at hsk
        have HSK := Lib.hid hsk
        clear h2 hb2 hx hsk
        go_wp2_with fail
        refine HSK.out.mono ?_
        rintro e w3 ⟨rfl, h3, g3⟩
        have H3 := Lib.hid h3
        have HB3 := Lib.hid (HB2.out.trans (below_of_grown g3 hbase hlt))
        clear h3 g3 HSK HB2
        go_wp2_with fail
        refine post_is HQ ?_
        rw [HE.out, ← HP.out, parM, if_neg HX.out]
        exact ⟨rfl, H3.out, HB3.out⟩

theorem flat_nil (l : List RN) : l ++ [⟨1, 0, 0, nilS⟩] = l ++ flat l.length .nil := rfl

set_option maxRecDepth 20000 in
set_option maxHeartbeats 1000000 in
theorem way_step (f : Nat) (ih : ∀ f', f' < f → Par .piece 132 f') : Par .way 108 f := by
  intro n0 g s r l w h hm hne
  obtain ⟨f, rfl⟩ : ∃ f', f = f' + 1 := by
    cases f with
    | zero => exact absurd rfl hne
    | succ f' => exact ⟨f', rfl⟩
  have hbase0 := h.base
  have hlt0 := h.lt
  generalize hQ : Reads w n0 g s l (parM (f + 1) .way r) = Q
  have HQ := Lib.hid hQ
  have HM := Lib.hid hm
  simp only [sizeM] at hm
  have hen := ends_any h
  clear hQ
  cases hee : endsB r with
  | true =>
    rw [hee] at hen
    have HEN := Lib.hid hen
    have HEE := Lib.hid hee
    clear hen hee h hne
    go_enter Tryz.func108, Tryz.ntmps108
    go_wp2_with fail
    refine HEN.out.mono ?_
    rintro e w1 ⟨rfl, h1, hb1⟩
    have HJ := Lib.hid (joined_any 1 0 0 h1 (by omega))
    have HB1 := Lib.hid (hb1.mono (show n0 ≤ w.heap.size by omega))
    clear h1 hb1 HEN
    go_wp2_with fail
    refine HJ.out.mono ?_
    rintro e w5 ⟨rfl, h5, hb5⟩
    rw [flat_nil] at h5
    have H5 := Lib.hid h5
    have HB5 := Lib.hid (HB1.out.trans hb5)
    clear h5 hb5 HJ HB1
    go_wp2_with fail
    refine post_is HQ ?_
    rw [parM, HEE.out]
    exact ⟨rfl, H5.out, HB5.out⟩
  | false =>
    rw [hee] at hen
    have HEN := Lib.hid hen
    have HEE := Lib.hid hee
    have hne1 : parM f .piece r ≠ .out := by
      intro e
      apply hne
      rw [parM, hee, e]
      rfl
    have HN1 := Lib.hid hne1
    have HNE := Lib.hid hne
    have IH := Lib.hid ih
    clear h hne ih hne1 hen hee
    go_enter Tryz.func108, Tryz.ntmps108
    go_wp2_with fail
    refine HEN.out.mono ?_
    rintro e w0 ⟨rfl, h0, hb0⟩
    have hpc := IH.out f (by omega) n0 g s r l w0 h0 (by simp only [sizeM]; omega) HN1.out
    have HW := Lib.hid hpc
    have HB0 := Lib.hid (hb0.mono (show n0 ≤ w.heap.size by omega))
    clear h0 hb0 hpc HEN
    go_wp2_with fail
    refine HW.out.mono ?_
    intro e w1 hd
    cases hd1 : parM f .piece r with
    | out => exact absurd hd1 HN1.out
    | bad r' =>
      rw [hd1] at hd
      obtain ⟨rfl, hb⟩ := hd
      have D1 := Lib.hid hd1
      have HB := Lib.hid (HB0.out.trans hb)
      clear hd1 hb
      go_wp2_with fail
      refine ⟨rfl, post_is HQ ?_⟩
      rw [parM, HEE.out, D1.out]
      exact ⟨rfl, HB.out⟩
    | ok t r1 =>
      rw [hd1] at hd
      obtain ⟨rfl, h1, hb⟩ := hd
      have D1 := Lib.hid hd1
      have hE : parM (f + 1) .way r = parM f (.wayL t) r1 := by rw [parM, HEE.out, hd1]; rfl
      have hne2 : parM f (.wayL t) r1 ≠ .out := by rw [← hE]; exact HNE.out
      have H1 := Lib.hid h1
      have HB := Lib.hid (HB0.out.trans hb)
      have HE := Lib.hid hE
      have HN2 := Lib.hid hne2
      clear hd1 h1 hb hE hne2 HNE HW HB0 HN1
      go_wp2_with fail
      go_loopg [3] f (fun k v wr => ∃ u r2, Hid (k ≤ f) ∧ v = .int .i64 ((l.length + u.size - 1 : Nat) : Int) ∧ Hid (parM k (.wayL u) r2 = parM f (.wayL t) r1) ∧ RdAt n0 g s r2 (l ++ flat l.length u) wr ∧ Below n0 w wr)
      case atStart => exact ⟨t, r1, Nat.le_refl _, rfl, rfl, H1.out, HB.out⟩
      case round =>
        clear H1 HB
        obtain ⟨u, r2, HK, rfl, HP, h2, hb2⟩ := hrel
        obtain ⟨k, rfl⟩ : ∃ k, gk = k + 1 := by
          cases gk with
          | zero => exact absurd (by rw [← HP.out]; rfl) HN2.out
          | succ k => exact ⟨k, rfl⟩
        have hbase := h2.base
        have hlt := h2.lt
        have hfew := h2.few
        rw [len_flat] at hfew
        have hsk := ends_any h2
        have HB2 := Lib.hid hb2
        cases hx : endsB r2 with
        | false =>
          have HX := Lib.hid hx
          rw [hx] at hsk
          have htl := List.length_pos_iff.2 (ends_ne (r := r2) (by rw [hx]; simp))
          have HSK := Lib.hid hsk
          clear h2 hb2 hx hsk
          go_wp2_with fail
          refine HSK.out.mono ?_
          rintro e w3 ⟨rfl, h3, g3⟩
          have HB3 := Lib.hid (HB2.out.trans (g3.mono (show n0 ≤ wr.heap.size by omega)))
          have hne3 : parM k .piece r2 ≠ .out := by
            intro e
            have := HP.out
            rw [parM, HX.out, e] at this
            exact HN2.out this.symm
          have hway := IH.out k (by have := HK.out; omega) n0 g s r2 (l ++ flat l.length u) w3 h3 (by rw [len_flat]; simp only [sizeM]; omega) hne3
          have HW2 := Lib.hid hway
          have HN3 := Lib.hid hne3
          clear h3 g3 hway hne3 HSK HB2
          go_wp2_with fail
          refine HW2.out.mono ?_
          intro e w4 hd
          cases hd2 : parM k .piece r2 with
          | out => exact absurd hd2 HN3.out
          | bad r' =>
            rw [hd2] at hd
            obtain ⟨rfl, hb⟩ := hd
            have D2 := Lib.hid hd2
            have HB := Lib.hid hb
            clear hd2 hb
            go_wp2_with fail
            refine ⟨rfl, post_is HQ ?_⟩
            rw [HE.out, ← HP.out, parM, HX.out, D2.out]
            exact ⟨rfl, HB3.out.trans HB.out⟩
          | ok t2 r3 =>
            rw [hd2] at hd
            obtain ⟨he4, h4, hb4⟩ := hd
            rw [len_flat] at he4
            subst he4
            have hsz := parM_size _ _ _ _ _ hd2
            simp only [sizeM] at hsz
            have D2 := Lib.hid hd2
            have H4 := Lib.hid h4
            have HB4 := Lib.hid (HB3.out.trans hb4)
            have hj := joined_any 3 ((l.length + u.size - 1 : Nat) : Int) ((l.length + u.size + t2.size - 1 : Nat) : Int) h4 (by rw [List.length_append, flat_len, len_flat]; omega)
            have HJ := Lib.hid hj
            clear hd2 h4 hb4 hj HB3 HW2
            go_wp2_with fail
            refine HJ.out.mono ?_
            rintro e w5 ⟨he5, h5, hb5⟩
            rw [List.length_append, flat_len, len_flat] at he5
            subst he5
            rw [flat_seq] at h5
            have H5 := Lib.hid h5
            have HB5 := Lib.hid (HB4.out.trans hb5)
            clear h5 hb5 HJ HB4 H4
            go_wp2_with fail
            go_roundg k
            case measure => omega
            case rel =>
              refine ⟨.seq u t2, r3, show k ≤ f by have := HK.out; omega, ?_, ?_, H5.out, HB5.out⟩
              · congr 1
                rw [Rx.size]
                omega
              · unfold Hid
                rw [← HP.out, parM, HX.out, D2.out]
                rfl
        | true =>
          have HX := Lib.hid hx
          rw [hx] at hsk
          have HSK := Lib.hid hsk
          clear h2 hb2 hx hsk
          go_wp2_with fail
          refine HSK.out.mono ?_
          rintro e w3 ⟨rfl, h3, g3⟩
          have H3 := Lib.hid h3
          have HB3 := Lib.hid (HB2.out.trans (g3.mono (show n0 ≤ wr.heap.size by omega)))
          clear h3 g3 HSK HB2
          go_wp2_with fail
          refine post_is HQ ?_
          rw [HE.out, ← HP.out, parM, HX.out]
          exact ⟨rfl, H3.out, HB3.out⟩

end Go.Proofs.YtcgfogdfcdndgaaGreatDoor

/- The reader of patterns: piece, atom, and all four together. No condition. -/
set_option linter.unusedVariables false
set_option linter.unusedSimpArgs false
namespace Go.Proofs.YtcgfogdfcdndgaaGreatDoor
open Go.RowKit

theorem flat_star (l : List RN) (t : Rx) : (l ++ flat l.length t) ++ [⟨5, ((l.length + t.size - 1 : Nat) : Int), 0, nilS⟩] = l ++ flat l.length (.star t) := by
  rw [flat, List.append_assoc]
theorem flat_plus (l : List RN) (t : Rx) : (l ++ flat l.length t) ++ [⟨6, ((l.length + t.size - 1 : Nat) : Int), 0, nilS⟩] = l ++ flat l.length (.plus t) := by
  rw [flat, List.append_assoc]
theorem flat_maybe (l : List RN) (t : Rx) : (l ++ flat l.length t) ++ [⟨1, 0, 0, nilS⟩] ++ [⟨4, ((l.length + t.size - 1 : Nat) : Int), ((l.length + t.size : Nat) : Int), nilS⟩] = l ++ flat l.length (.alt t .nil) := by
  rw [flat, flat]
  simp [List.append_assoc, Rx.size]
theorem reps_cons (b : UInt8) (r : List UInt8) (t : Rx) : reps t (b :: r) = if b = 42 then reps (.star t) r else if b = 43 then reps (.plus t) r else if b = 63 then reps (.alt t .nil) r else (t, b :: r) := by rw [reps]
theorem reps_end (r : List UInt8) (t : Rx) (h1 : ¬ look r = 42) (h2 : ¬ look r = 43) (h3 : ¬ look r = 63) : reps t r = (t, r) := by
  cases r with
  | nil => rfl
  | cons b r =>
    rw [look_cons] at h1 h2 h3
    rw [reps_cons, if_neg h1, if_neg h2, if_neg h3]

/-- A byte that is skipped, or not, as a step of the reader. -/
theorem skip_yes {n0 g : Nat} {s r : List UInt8} {l : List RN} {w0 w : World} (b : UInt8) (hb : b ≠ 0) (h : RdAt n0 g s r l w) (h0 : Below n0 w0 w) (hx : look r = b) : Calls Tryz.prog 109 #[.pointer (some ⟨g, 0, none⟩), .int .u8 (b.toNat : Int)] w
    fun e w' => e = .returned (.bool true) ∧ RdAt n0 g s r.tail l w' ∧ Below n0 w0 w' := by
  refine (skips_any b hb h).mono ?_
  rw [if_pos hx, decide_eq_true hx]
  rintro e w' ⟨rfl, h1, g1⟩
  exact ⟨rfl, h1, h0.trans (below_of_grown g1 h.base h.lt)⟩
theorem skip_no {n0 g : Nat} {s r : List UInt8} {l : List RN} {w0 w : World} (b : UInt8) (hb : b ≠ 0) (h : RdAt n0 g s r l w) (h0 : Below n0 w0 w) (hx : ¬ look r = b) : Calls Tryz.prog 109 #[.pointer (some ⟨g, 0, none⟩), .int .u8 (b.toNat : Int)] w
    fun e w' => e = .returned (.bool false) ∧ RdAt n0 g s r l w' ∧ Below n0 w0 w' := by
  refine (skips_any b hb h).mono ?_
  rw [if_neg hx, decide_eq_false hx]
  rintro e w' ⟨rfl, h1, g1⟩
  exact ⟨rfl, h1, h0.trans (below_of_grown g1 h.base h.lt)⟩
theorem joined_from {n0 g : Nat} {s r : List UInt8} {l : List RN} {w0 w : World} (k a b : Int) (h : RdAt n0 g s r l w) (h0 : Below n0 w0 w) (hm : l.length + 2 * r.length + 1 ≤ 2060) : Calls Tryz.prog 110 #[.pointer (some ⟨g, 0, none⟩), .int .i64 k, .int .i64 a, .int .i64 b] w
    (GotM w0 n0 g s r (l ++ [⟨k, a, b, nilS⟩]) (.int .i64 (l.length : Int))) := by
  refine (joined_any k a b h hm).mono ?_
  rintro e w' ⟨rfl, h1, b1⟩
  exact ⟨rfl, h1, h0.trans b1⟩

set_option maxRecDepth 20000 in
set_option maxHeartbeats 2000000 in
theorem piece_step (f : Nat) (ih : ∀ f', f' < f → Par .atom 145 f') : Par .piece 132 f := by
  intro n0 g s r l w h hm hne
  obtain ⟨f, rfl⟩ : ∃ f', f = f' + 1 := by
    cases f with
    | zero => exact absurd rfl hne
    | succ f' => exact ⟨f', rfl⟩
  have hne1 : parM f .atom r ≠ .out := by
    intro e
    apply hne
    rw [parM, e]
  have hway := ih f (by omega) n0 g s r l w h hm hne1
  generalize hQ : Reads w n0 g s l (parM (f + 1) .piece r) = Q
  have HQ := Lib.hid hQ
  have HW := Lib.hid hway
  have HNE := Lib.hid hne1
  clear hQ hway h hne hne1 ih hm
  go_enter Tryz.func132, Tryz.ntmps132
  go_wp2_with fail
  refine HW.out.mono ?_
  intro e w1 hd
  cases hd1 : parM f .atom r with
  | out => exact absurd hd1 HNE.out
  | bad r' =>
    rw [hd1] at hd
    obtain ⟨rfl, hb⟩ := hd
    have D1 := Lib.hid hd1
    have HB := Lib.hid hb
    clear hd1 hb
    go_wp2_with fail
    refine ⟨rfl, post_is HQ ?_⟩
    rw [parM, D1.out]
    exact ⟨rfl, HB.out⟩
  | ok t r1 =>
    rw [hd1] at hd
    obtain ⟨rfl, h1, hb⟩ := hd
    have hE : parM (f + 1) .piece r = .ok (reps t r1).1 (reps t r1).2 := by rw [parM, hd1]
    have H1 := Lib.hid h1
    have HB := Lib.hid hb
    have HE := Lib.hid hE
    clear hd1 h1 hb hE HNE HW
    go_wp2_with fail
    go_loopg [3] (r1.length + 1) (fun k v wr => ∃ u r2, Hid (r2.length < k) ∧ v = .int .i64 ((l.length + u.size - 1 : Nat) : Int) ∧ Hid (reps u r2 = reps t r1) ∧ RdAt n0 g s r2 (l ++ flat l.length u) wr ∧ Below n0 w wr)
    case atStart => exact ⟨t, r1, Nat.lt_succ_self _, rfl, rfl, H1.out, HB.out⟩
    case round =>
      clear H1 HB
      obtain ⟨u, r2, HK, rfl, HP, h2, hb2⟩ := hrel
      have hfew := h2.few
      rw [len_flat] at hfew
      have hup := u.size_pos
      have H2 := Lib.hid h2
      have HB2 := Lib.hid hb2
      clear h2 hb2
      by_cases hx : look r2 = 42
      · obtain ⟨y, rfl⟩ := look_ne hx (by decide)
        simp only [List.length_cons] at hfew
        have HX := Lib.hid hx
        clear hx
        go_wp2_with fail
        refine (skip_yes 42 (by decide) H2.out HB2.out HX.out).mono ?_
        rintro e w3 ⟨rfl, h3, b3⟩
        rw [List.tail_cons] at h3
        have HJ := Lib.hid (joined_from 5 ((l.length + u.size - 1 : Nat) : Int) 0 h3 b3 (by rw [len_flat]; omega))
        clear h3 b3 H2 HB2
        go_wp2_with fail
        refine HJ.out.mono ?_
        rintro e w5 ⟨he5, h5, hb5⟩
        rw [len_flat] at he5
        subst he5
        rw [flat_star] at h5
        have H5 := Lib.hid h5
        have HB5 := Lib.hid hb5
        clear h5 hb5 HJ
        go_wp2_with fail
        go_roundg (y.length + 1)
        case measure => have := HK.out; simp at this; omega
        case rel =>
          refine ⟨.star u, y, Nat.lt_succ_self _, ?_, ?_, H5.out, HB5.out⟩
          · first | (congr 1; done) | (congr 1; simp only [Rx.size]; omega)
          · unfold Hid
            rw [← HP.out, reps_cons, if_pos rfl]
      by_cases hx2 : look r2 = 43
      · obtain ⟨y, rfl⟩ := look_ne hx2 (by decide)
        simp only [List.length_cons] at hfew
        have HX := Lib.hid hx
        have HX2 := Lib.hid hx2
        clear hx hx2
        go_wp2_with fail
        refine (skip_no 42 (by decide) H2.out HB2.out HX.out).mono ?_
        rintro e w2 ⟨rfl, h2, b2⟩
        have H2' := Lib.hid h2
        have HB2' := Lib.hid b2
        clear h2 b2 H2 HB2
        go_wp2_with fail
        refine (skip_yes 43 (by decide) H2'.out HB2'.out HX2.out).mono ?_
        rintro e w3 ⟨rfl, h3, b3⟩
        rw [List.tail_cons] at h3
        have HJ := Lib.hid (joined_from 6 ((l.length + u.size - 1 : Nat) : Int) 0 h3 b3 (by rw [len_flat]; omega))
        clear h3 b3 H2' HB2'
        go_wp2_with fail
        refine HJ.out.mono ?_
        rintro e w5 ⟨he5, h5, hb5⟩
        rw [len_flat] at he5
        subst he5
        rw [flat_plus] at h5
        have H5 := Lib.hid h5
        have HB5 := Lib.hid hb5
        clear h5 hb5 HJ
        go_wp2_with fail
        go_roundg (y.length + 1)
        case measure => have := HK.out; simp at this; omega
        case rel =>
          refine ⟨.plus u, y, Nat.lt_succ_self _, ?_, ?_, H5.out, HB5.out⟩
          · first | (congr 1; done) | (congr 1; simp only [Rx.size]; omega)
          · unfold Hid
            rw [← HP.out, reps_cons, if_neg (by decide), if_pos rfl]
      by_cases hx3 : look r2 = 63
      · obtain ⟨y, rfl⟩ := look_ne hx3 (by decide)
        simp only [List.length_cons] at hfew
        have HX := Lib.hid hx
        have HX2 := Lib.hid hx2
        have HX3 := Lib.hid hx3
        clear hx hx2 hx3
        go_wp2_with fail
        refine (skip_no 42 (by decide) H2.out HB2.out HX.out).mono ?_
        rintro e w2 ⟨rfl, h2, b2⟩
        have H2' := Lib.hid h2
        have HB2' := Lib.hid b2
        clear h2 b2 H2 HB2
        go_wp2_with fail
        refine (skip_no 43 (by decide) H2'.out HB2'.out HX2.out).mono ?_
        rintro e w2 ⟨rfl, h2, b2⟩
        have H3 := Lib.hid h2
        have HB3 := Lib.hid b2
        clear h2 b2 H2' HB2'
        go_wp2_with fail
        refine (skip_yes 63 (by decide) H3.out HB3.out HX3.out).mono ?_
        rintro e w3 ⟨rfl, h3, b3⟩
        rw [List.tail_cons] at h3
        have HJ := Lib.hid (joined_from 1 0 0 h3 b3 (by rw [len_flat]; omega))
        clear h3 b3 H3 HB3
        go_wp2_with fail
        refine HJ.out.mono ?_
        rintro e w5 ⟨he5, h5, hb5⟩
        rw [len_flat] at he5
        subst he5
        have HJ2 := Lib.hid (joined_from 4 ((l.length + u.size - 1 : Nat) : Int) ((l.length + u.size : Nat) : Int) h5 hb5 (by rw [List.length_append, len_flat]; simp; omega))
        clear h5 hb5 HJ
        go_wp2_with fail
        refine HJ2.out.mono ?_
        rintro e w6 ⟨he6, h6, hb6⟩
        rw [List.length_append, len_flat] at he6
        subst he6
        rw [flat_maybe] at h6
        have H6 := Lib.hid h6
        have HB6 := Lib.hid hb6
        clear h6 hb6 HJ2
        go_wp2_with fail
        go_roundg (y.length + 1)
        case measure => have := HK.out; simp at this; omega
        case rel =>
          refine ⟨.alt u .nil, y, Nat.lt_succ_self _, ?_, ?_, H6.out, HB6.out⟩
          · first | (congr 1; done) | (congr 1; simp only [Rx.size]; omega)
          · unfold Hid
            rw [← HP.out, reps_cons, if_neg (by decide), if_neg (by decide), if_pos rfl]
      · have HX := Lib.hid hx
        have HX2 := Lib.hid hx2
        have HX3 := Lib.hid hx3
        clear hx hx2 hx3
        go_wp2_with fail
        refine (skip_no 42 (by decide) H2.out HB2.out HX.out).mono ?_
        rintro e w2 ⟨rfl, h2, b2⟩
        have H2' := Lib.hid h2
        have HB2' := Lib.hid b2
        clear h2 b2 H2 HB2
        go_wp2_with fail
        refine (skip_no 43 (by decide) H2'.out HB2'.out HX2.out).mono ?_
        rintro e w2 ⟨rfl, h2, b2⟩
        have H3 := Lib.hid h2
        have HB3 := Lib.hid b2
        clear h2 b2 H2' HB2'
        go_wp2_with fail
        refine (skip_no 63 (by decide) H3.out HB3.out HX3.out).mono ?_
        rintro e w3 ⟨rfl, h3, b3⟩
        have H4 := Lib.hid h3
        have HB4 := Lib.hid b3
        clear h3 b3 H3 HB3
        go_wp2_with fail
        refine post_is HQ ?_
        rw [HE.out, ← HP.out, reps_end r2 u HX.out HX2.out HX3.out]
        exact ⟨rfl, H4.out, HB4.out⟩

theorem par_open (f : Nat) (y : List UInt8) : parM (f + 1) .atom (40 :: y) = (match parM f .ways y with
    | .ok t r1 => if look r1 = 41 then .ok t r1.tail else .bad r1
    | x => x) := by
  rw [parM, if_pos (look_cons 40 y)]
  rfl
theorem par_class (f : Nat) (y : List UInt8) : parM (f + 1) .atom (91 :: y) = (match clsM y with
    | .ok s r1 => .ok (.set s) r1
    | .bad x => .bad x
    | .out => .out) := by
  rw [parM, if_neg (by rw [look_cons]; decide), if_pos (look_cons 91 y)]
  rfl
theorem par_dot (f : Nat) (y : List UInt8) : parM (f + 1) .atom (46 :: y) = .ok (.set dotS) y := by
  rw [parM, if_neg (by rw [look_cons]; decide), if_neg (by rw [look_cons]; decide), if_pos (look_cons 46 y)]
  rfl
theorem leaf_from {n0 g : Nat} {s r : List UInt8} {l : List RN} {w0 w : World} (z : S4) (h : RdAt n0 g s r l w) (h0 : Below n0 w0 w) (hm : l.length + 2 * r.length + 1 ≤ 2060) : Calls Tryz.prog 149 #[.pointer (some ⟨g, 0, none⟩), encS z] w
    (GotM w0 n0 g s r (l ++ flat l.length (.set z)) (.int .i64 (l.length : Int))) := by
  refine (leaf_any z h hm).mono ?_
  rintro e w' ⟨rfl, h1, b1⟩
  exact ⟨rfl, h1, h0.trans b1⟩

set_option maxRecDepth 20000 in
set_option maxHeartbeats 2000000 in
theorem atom_step (f : Nat) (ih : ∀ f', f' < f → Par .ways 95 f') : Par .atom 145 f := by
  intro n0 g s r l w h hm hne
  obtain ⟨f, rfl⟩ : ∃ f', f = f' + 1 := by
    cases f with
    | zero => exact absurd rfl hne
    | succ f' => exact ⟨f', rfl⟩
  simp only [sizeM] at hm
  have hbase := h.base
  generalize hQ : Reads w n0 g s l (parM (f + 1) .atom r) = Q
  have HQ := Lib.hid hQ
  have H := Lib.hid h
  have HB := Lib.hid (Below.refl n0 w)
  clear hQ h
  by_cases hx : look r = 40
  · obtain ⟨y, rfl⟩ := look_ne hx (by decide)
    simp only [List.length_cons] at hm
    have hne1 : parM f .ways y ≠ .out := by
      intro e
      apply hne
      rw [par_open, e]
    have HX := Lib.hid hx
    have HN1 := Lib.hid hne1
    have IH := Lib.hid ih
    clear hx hne hne1 ih
    go_enter Tryz.func145, Tryz.ntmps145
    go_wp2_with fail
    refine (skip_yes 40 (by decide) H.out HB.out HX.out).mono ?_
    rintro e w1 ⟨rfl, h1, b1⟩
    rw [List.tail_cons] at h1
    have HW := Lib.hid (IH.out f (by omega) n0 g s y l w1 h1 (by simp only [sizeM]; omega) HN1.out)
    have HB1 := Lib.hid b1
    clear h1 b1 H HB
    go_wp2_with fail
    refine HW.out.mono ?_
    intro e w2 hd
    cases hd1 : parM f .ways y with
    | out => exact absurd hd1 HN1.out
    | bad r' =>
      rw [hd1] at hd
      obtain ⟨rfl, hb⟩ := hd
      have D1 := Lib.hid hd1
      have HB2 := Lib.hid (HB1.out.trans hb)
      clear hd1 hb
      go_wp2_with fail
      refine ⟨rfl, post_is HQ ?_⟩
      rw [par_open, D1.out]
      exact ⟨rfl, HB2.out⟩
    | ok t r1 =>
      rw [hd1] at hd
      obtain ⟨rfl, h2, hb⟩ := hd
      have D1 := Lib.hid hd1
      have H2 := Lib.hid h2
      have HB2 := Lib.hid (HB1.out.trans hb)
      clear hd1 h2 hb HW HB1
      by_cases hy : look r1 = 41
      · have HY := Lib.hid hy
        clear hy
        go_wp2_with fail
        refine (skip_yes 41 (by decide) H2.out HB2.out HY.out).mono ?_
        rintro e w3 ⟨rfl, h3, b3⟩
        have H3 := Lib.hid h3
        have HB3 := Lib.hid b3
        clear h3 b3 H2 HB2
        go_wp2_with fail
        refine post_is HQ ?_
        rw [par_open, D1.out]
        simp only []
        rw [if_pos HY.out]
        exact ⟨rfl, H3.out, HB3.out⟩
      · have HY := Lib.hid hy
        clear hy
        go_wp2_with fail
        refine (skip_no 41 (by decide) H2.out HB2.out HY.out).mono ?_
        rintro e w3 ⟨rfl, h3, b3⟩
        obtain ⟨k, HK, HL2, hk, c0, c1, f1, HX2⟩ := h3.cells
        have HB3 := Lib.hid b3
        clear h3 b3 H2 HB2 HX2
        go_wp2_with fail
        refine ⟨rfl, post_is HQ ?_⟩
        rw [par_open, D1.out]
        simp only []
        rw [if_neg HY.out]
        exact ⟨by rw [← HK.out], HB3.out⟩
  clear ih
  by_cases hx2 : look r = 91
  · obtain ⟨y, rfl⟩ := look_ne hx2 (by decide)
    simp only [List.length_cons] at hm
    have HX := Lib.hid hx
    have HX2 := Lib.hid hx2
    clear hx hx2 hne
    go_enter Tryz.func145, Tryz.ntmps145
    go_wp2_with fail
    refine (skip_no 40 (by decide) H.out HB.out HX.out).mono ?_
    rintro e w1 ⟨rfl, h1, b1⟩
    have H1 := Lib.hid h1
    have HB1 := Lib.hid b1
    clear h1 b1 H HB
    go_wp2_with fail
    refine (skip_yes 91 (by decide) H1.out HB1.out HX2.out).mono ?_
    rintro e w2 ⟨rfl, h2, b2⟩
    rw [List.tail_cons] at h2
    have hlt := h2.lt
    have H2 := Lib.hid h2
    have HB2 := Lib.hid b2
    clear h2 b2 H1 HB1
    go_wp2_with fail
    refine (class_any H2.out).mono ?_
    intro e w3 hd
    cases hd1 : clsM y with
    | out => exact absurd hd1 (clsM_out y)
    | bad r' =>
      rw [hd1] at hd
      obtain ⟨rfl, hb⟩ := hd
      have D1 := Lib.hid hd1
      have HB3 := Lib.hid (HB2.out.trans hb)
      clear hd1 hb
      go_wp2_with fail
      refine ⟨rfl, post_is HQ ?_⟩
      rw [par_class, D1.out]
      exact ⟨rfl, HB3.out⟩
    | ok z r1 =>
      rw [hd1] at hd
      obtain ⟨rfl, h3, g3⟩ := hd
      have hcl := clsM_len hd1
      have D1 := Lib.hid hd1
      have HJ := Lib.hid (leaf_from z h3 (HB2.out.trans (below_of_grown g3 hbase hlt)) (by omega))
      clear hd1 h3 g3 H2 HB2
      unfold encS at HJ ⊢
      go_wp2_with fail
      refine HJ.out.mono ?_
      rintro e w5 ⟨rfl, h5, hb5⟩
      have H5 := Lib.hid h5
      have HB5 := Lib.hid hb5
      clear h5 hb5 HJ
      go_wp2_with fail
      refine post_is HQ ?_
      rw [par_class, D1.out]
      exact ⟨rfl, H5.out, HB5.out⟩
  by_cases hx3 : look r = 46
  · obtain ⟨y, rfl⟩ := look_ne hx3 (by decide)
    simp only [List.length_cons] at hm
    have HX := Lib.hid hx
    have HX2 := Lib.hid hx2
    have HX3 := Lib.hid hx3
    clear hx hx2 hx3 hne
    go_enter Tryz.func145, Tryz.ntmps145
    go_wp2_with fail
    refine (skip_no 40 (by decide) H.out HB.out HX.out).mono ?_
    rintro e w1 ⟨rfl, h1, b1⟩
    have H1 := Lib.hid h1
    have HB1 := Lib.hid b1
    clear h1 b1 H HB
    go_wp2_with fail
    refine (skip_no 91 (by decide) H1.out HB1.out HX2.out).mono ?_
    rintro e w2 ⟨rfl, h2, b2⟩
    have H2 := Lib.hid h2
    have HB2 := Lib.hid b2
    clear h2 b2 H1 HB1
    go_wp2_with fail
    refine (skip_yes 46 (by decide) H2.out HB2.out HX3.out).mono ?_
    rintro e w3 ⟨rfl, h3, b3⟩
    rw [List.tail_cons] at h3
    have hlt := h3.lt
    have H3 := Lib.hid h3
    have HB3 := Lib.hid b3
    clear h3 b3 H2 HB2
    go_wp2_with fail
    refine (dot_any _).mono ?_
    rintro e w4 ⟨rfl, hb4⟩
    have HJ := Lib.hid (leaf_from dotS (H3.out.below hb4) (HB3.out.trans (hb4.mono (by omega))) (by omega))
    clear hb4 H3 HB3
    unfold encS at HJ ⊢
    go_wp2_with fail
    refine HJ.out.mono ?_
    rintro e w5 ⟨rfl, h5, hb5⟩
    have H5 := Lib.hid h5
    have HB5 := Lib.hid hb5
    clear h5 hb5 HJ
    go_wp2_with fail
    refine post_is HQ ?_
    rw [par_dot]
    exact ⟨rfl, H5.out, HB5.out⟩
  · have HX := Lib.hid hx
    have HX2 := Lib.hid hx2
    have HX3 := Lib.hid hx3
    clear hx hx2 hx3 hne
    go_enter Tryz.func145, Tryz.ntmps145
    go_wp2_with fail
    refine (skip_no 40 (by decide) H.out HB.out HX.out).mono ?_
    rintro e w1 ⟨rfl, h1, b1⟩
    have H1 := Lib.hid h1
    have HB1 := Lib.hid b1
    clear h1 b1 H HB
    go_wp2_with fail
    refine (skip_no 91 (by decide) H1.out HB1.out HX2.out).mono ?_
    rintro e w2 ⟨rfl, h2, b2⟩
    have H2 := Lib.hid h2
    have HB2 := Lib.hid b2
    clear h2 b2 H1 HB1
    go_wp2_with fail
    refine (skip_no 46 (by decide) H2.out HB2.out HX3.out).mono ?_
    rintro e w3 ⟨rfl, h3, b3⟩
    have hlt := h3.lt
    have H3 := Lib.hid h3
    have HB3 := Lib.hid b3
    clear h3 b3 H2 HB2
    go_wp2_with fail
    refine (one_any sgA H3.out).mono ?_
    intro e w4 hd
    cases hd1 : oneM sgA r with
    | out => exact absurd hd1 (oneM_out _ r)
    | bad r' =>
      rw [hd1] at hd
      obtain ⟨rfl, hb⟩ := hd
      have D1 := Lib.hid hd1
      have HB4 := Lib.hid (HB3.out.trans hb)
      clear hd1 hb
      go_wp2_with fail
      refine ⟨rfl, post_is HQ ?_⟩
      rw [parM, if_neg HX.out, if_neg HX2.out, if_neg HX3.out, D1.out]
      exact ⟨rfl, HB4.out⟩
    | ok c r1 =>
      rw [hd1] at hd
      obtain ⟨rfl, h4, g4⟩ := hd
      have hcl := oneM_len hd1
      have D1 := Lib.hid hd1
      have H4 := Lib.hid h4
      have HB4 := Lib.hid (HB3.out.trans (below_of_grown g4 hbase hlt))
      clear hd1 h4 g4 H3 HB3
      unfold encU8
      go_wp2_with fail
      refine (of_one c _).mono ?_
      rintro e w5 ⟨rfl, hb5⟩
      have B5 := bl_trans (bl_alloc (Below.refl w4.heap.size w4) (.cells #[.int .u8 (c.toNat : Int)] 5)) hb5
      have hlt4 := H4.out.lt
      have HJ := Lib.hid (leaf_from (oneS c.toNat) (H4.out.below B5) (HB4.out.trans (B5.mono (by omega))) (by omega))
      clear hb5 B5 H4 HB4
      unfold encS at HJ ⊢
      go_wp2_with fail
      refine HJ.out.mono ?_
      rintro e w6 ⟨rfl, h6, hb6⟩
      have H6 := Lib.hid h6
      have HB6 := Lib.hid hb6
      clear h6 hb6 HJ
      go_wp2_with fail
      refine post_is HQ ?_
      rw [parM, if_neg HX.out, if_neg HX2.out, if_neg HX3.out, D1.out]
      exact ⟨rfl, H6.out, HB6.out⟩

/-- All four. -/
theorem par_all : ∀ f : Nat, (∀ f', f' < f → Par .ways 95 f' ∧ Par .way 108 f' ∧ Par .piece 132 f' ∧ Par .atom 145 f')
  | 0, f', h => absurd h (by omega)
  | f + 1, f', h => by
    have ih := par_all f
    have hs : ∀ k, k < f' → Par .ways 95 k ∧ Par .way 108 k ∧ Par .piece 132 k ∧ Par .atom 145 k := fun k hk => ih k (by omega)
    exact ⟨ways_step f' fun k hk => (hs k hk).2.1, way_step f' fun k hk => (hs k hk).2.2.1, piece_step f' fun k hk => (hs k hk).2.2.2, atom_step f' fun k hk => (hs k hk).1⟩
theorem ways_any (f : Nat) : Par .ways 95 f := (par_all (f + 1) f (by omega)).1

end Go.Proofs.YtcgfogdfcdndgaaGreatDoor
