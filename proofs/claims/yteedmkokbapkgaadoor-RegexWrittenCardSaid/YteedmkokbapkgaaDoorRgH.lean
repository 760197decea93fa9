/- The reader of patterns: ways, way, piece, atom: what they read as a tree, laid as nodes. No condition. -/
import Derived.Test.YteedmkokbapkgaaDoorRgG
set_option linter.unusedVariables false
set_option linter.unusedSimpArgs false
namespace Go.Proofs.YteedmkokbapkgaaDoor
open Go.RowKit

/-- What a call of the reader answers that reads a tree. -/
def Reads (w : World) (n0 g : Nat) (s : List UInt8) (l : List RN) : Res Rx → Ending → World → Prop
  | .ok t r => GotM w n0 g s r (l ++ flat l.length t) (.int .i64 ((l.length + t.size - 1 : Nat) : Int))
  | .bad r => Threw w n0 s r
  | .out => fun _ _ => True
/-- The four, with so much fuel. -/
def Par (m : Md) (fn : Nat) (f : Nat) : Prop := ∀ (n0 g : Nat) (s r : List UInt8) (l : List RN) (w : World), RdAt n0 g s r l w → l.length + sizeM m r.length ≤ 2060 → parM f m r ≠ .out →
  Calls Tryd.prog fn #[.pointer (some ⟨g, 0, none⟩)] w (Reads w n0 g s l (parM f m r))
theorem flat_alt (l : List RN) (t u : Rx) : (l ++ flat l.length t) ++ flat (l ++ flat l.length t).length u ++ [⟨4, ((l.length + t.size - 1 : Nat) : Int), ((l.length + t.size + u.size - 1 : Nat) : Int), nilS⟩] = l ++ flat l.length (.alt t u) := by
  rw [List.length_append, flat_len, flat]
  simp [List.append_assoc]
theorem flat_seq (l : List RN) (t u : Rx) : (l ++ flat l.length t) ++ flat (l ++ flat l.length t).length u ++ [⟨3, ((l.length + t.size - 1 : Nat) : Int), ((l.length + t.size + u.size - 1 : Nat) : Int), nilS⟩] = l ++ flat l.length (.seq t u) := by
  rw [List.length_append, flat_len, flat]
  simp [List.append_assoc]
theorem len_flat (l : List RN) (t : Rx) : (l ++ flat l.length t).length = l.length + t.size := by rw [List.length_append, flat_len]

set_option maxRecDepth 20000 in
set_option maxHeartbeats 1000000 in
theorem ways_step (f : Nat) (ih : ∀ f', f' < f → Par .way 71 f') : Par .ways 61 f := by
  intro n0 g s r l w h hm hne
  obtain ⟨f, rfl⟩ : ∃ f', f = f' + 1 := by
    cases f with
    | zero => exact absurd rfl hne
    | succ f' => exact ⟨f', rfl⟩
  have hne1 : parM f .way r ≠ .out := by
    intro e
    apply hne
    rw [parM, e]
  have hway := ih f (by omega) n0 g s r l w h (by simp only [sizeM] at hm ⊢; omega) hne1
  generalize hQ : Reads w n0 g s l (parM (f + 1) .ways r) = Q
  have HQ := Lib.hid hQ
  have HW := Lib.hid hway
  have HM := Lib.hid hm
  have HNE := Lib.hid hne
  have IH := Lib.hid ih
  clear hQ hway h hm hne ih hne1
  go_enter Tryd.func61, Tryd.ntmps61
  go_wp2_with fail
  refine HW.out.mono ?_
  intro e w1 hd
  cases hd1 : parM f .way r with
  | out => exact absurd (by rw [parM, hd1]) HNE.out
  | bad r' =>
    rw [hd1] at hd
    obtain ⟨rfl, hb⟩ := hd
    have D1 := Lib.hid hd1
    have HB := Lib.hid hb
    clear hd1 hb
    go_wp2_with fail
    refine ⟨rfl, post_is HQ ?_⟩
    rw [parM, D1.out]
    exact ⟨rfl, HB.out⟩
  | ok t r1 =>
    rw [hd1] at hd
    obtain ⟨rfl, h1, hb⟩ := hd
    have D1 := Lib.hid hd1
    have hE : parM (f + 1) .ways r = parM f (.waysL t) r1 := by rw [parM, hd1]
    have hne2 : parM f (.waysL t) r1 ≠ .out := by rw [← hE]; exact HNE.out
    have H1 := Lib.hid h1
    have HB := Lib.hid hb
    have HE := Lib.hid hE
    have HN2 := Lib.hid hne2
    clear hd1 h1 hb hE hne2 HNE HW
    go_wp2_with fail
    go_loopg [3] f (fun k v wr => ∃ u r2, Hid (k ≤ f) ∧ v = .int .i64 ((l.length + u.size - 1 : Nat) : Int) ∧ Hid (parM k (.waysL u) r2 = parM f (.waysL t) r1) ∧ RdAt n0 g s r2 (l ++ flat l.length u) wr ∧ Below n0 w wr)
    case atStart => exact ⟨t, r1, Nat.le_refl _, rfl, rfl, H1.out, HB.out⟩
    case round =>
      clear H1 HB
      obtain ⟨u, r2, HK, rfl, HP, h2, hb2⟩ := hrel
      obtain ⟨k, rfl⟩ : ∃ k, gk = k + 1 := by
        cases gk with
        | zero => exact absurd (by rw [← HP.out]; rfl) HN2.out
        | succ k => exact ⟨k, rfl⟩
      have hbase := h2.base
      have hlt := h2.lt
      have hfew := h2.few
      rw [len_flat] at hfew
      have hsk := skips_any (l := l ++ flat l.length u) (b := 124) (by decide) h2
      have HB2 := Lib.hid hb2
      by_cases hx : look r2 = 124
      · have HX := Lib.hid hx
        rw [if_pos hx, decide_eq_true hx] at hsk
        have htl := look_tail hx (by decide)
        have HSK := Lib.hid hsk
        clear h2 hb2 hx hsk
        go_wp2_with fail
        refine HSK.out.mono ?_
        rintro e w3 ⟨rfl, h3, g3⟩
        have HB3 := Lib.hid (HB2.out.trans (below_of_grown g3 hbase hlt))
        have hne3 : parM k .way r2.tail ≠ .out := by
          intro e
          have := HP.out
          rw [parM, if_pos HX.out, e] at this
          exact HN2.out this.symm
        have hway := IH.out k (by have := HK.out; omega) n0 g s r2.tail (l ++ flat l.length u) w3 h3 (by rw [len_flat]; simp only [sizeM]; omega) hne3
        have HW2 := Lib.hid hway
        clear h3 g3 hway hne3 HSK HB2
        go_wp2_with fail
        refine HW2.out.mono ?_
        intro e w4 hd
        cases hd2 : parM k .way r2.tail with
        | out => exact absurd (by rw [← HP.out, parM, if_pos HX.out, hd2]) HN2.out
        | bad r' =>
          rw [hd2] at hd
          obtain ⟨rfl, hb⟩ := hd
          have D2 := Lib.hid hd2
          have HB := Lib.hid hb
          clear hd2 hb
          go_wp2_with fail
          refine ⟨rfl, post_is HQ ?_⟩
          rw [HE.out, ← HP.out, parM, if_pos HX.out, D2.out]
          exact ⟨rfl, HB3.out.trans HB.out⟩
        | ok t2 r3 =>
          rw [hd2] at hd
          obtain ⟨he4, h4, hb4⟩ := hd
          rw [len_flat] at he4
          subst he4
          have hsz := parM_size _ _ _ _ _ hd2
          simp only [sizeM] at hsz
          have D2 := Lib.hid hd2
          have H4 := Lib.hid h4
          have HB4 := Lib.hid (HB3.out.trans hb4)
          have hj := joined_any 4 ((l.length + u.size - 1 : Nat) : Int) ((l.length + u.size + t2.size - 1 : Nat) : Int) h4 (by rw [List.length_append, flat_len, len_flat]; omega)
          have HJ := Lib.hid hj
          clear hd2 h4 hb4 hj HB3 HW2
          go_wp2_with fail
          refine HJ.out.mono ?_
          rintro e w5 ⟨he5, h5, hb5⟩
          rw [List.length_append, flat_len, len_flat] at he5
          subst he5
          rw [flat_alt] at h5
          have H5 := Lib.hid h5
          have HB5 := Lib.hid (HB4.out.trans hb5)
          clear h5 hb5 HJ HB4 H4
          go_wp2_with fail
          go_roundg k
          case measure => omega
          case rel =>
            refine ⟨.alt u t2, r3, show k ≤ f by have := HK.out; omega, ?_, ?_, H5.out, HB5.out⟩
            · congr 1
              rw [Rx.size]
              omega
            · unfold Hid
              rw [← HP.out, parM, if_pos HX.out, D2.out]
      · have HX := Lib.hid hx
        rw [if_neg hx, decide_eq_false hx] at hsk
        have HSK := Lib.hid hsk
        clear h2 hb2 hx hsk
        go_wp2_with fail
        refine HSK.out.mono ?_
        rintro e w3 ⟨rfl, h3, g3⟩
        have H3 := Lib.hid h3
        have HB3 := Lib.hid (HB2.out.trans (below_of_grown g3 hbase hlt))
        clear h3 g3 HSK HB2
        go_wp2_with fail
        refine post_is HQ ?_
        rw [HE.out, ← HP.out, parM, if_neg HX.out]
        exact ⟨rfl, H3.out, HB3.out⟩

theorem flat_nil (l : List RN) : l ++ [⟨1, 0, 0, nilS⟩] = l ++ flat l.length .nil := rfl

set_option maxRecDepth 20000 in
set_option maxHeartbeats 1000000 in
theorem way_step (f : Nat) (ih : ∀ f', f' < f → Par .piece 86 f') : Par .way 71 f := by
  intro n0 g s r l w h hm hne
  obtain ⟨f, rfl⟩ : ∃ f', f = f' + 1 := by
    cases f with
    | zero => exact absurd rfl hne
    | succ f' => exact ⟨f', rfl⟩
  have hbase0 := h.base
  have hlt0 := h.lt
  generalize hQ : Reads w n0 g s l (parM (f + 1) .way r) = Q
  have HQ := Lib.hid hQ
  have HM := Lib.hid hm
  simp only [sizeM] at hm
  have hen := ends_any h
  clear hQ
  cases hee : endsB r with
  | true =>
    rw [hee] at hen
    have HEN := Lib.hid hen
    have HEE := Lib.hid hee
    clear hen hee h hne
    go_enter Tryd.func71, Tryd.ntmps71
    go_wp2_with fail
    refine HEN.out.mono ?_
    rintro e w1 ⟨rfl, h1, hb1⟩
    have HJ := Lib.hid (joined_any 1 0 0 h1 (by omega))
    have HB1 := Lib.hid (hb1.mono (show n0 ≤ w.heap.size by omega))
    clear h1 hb1 HEN
    go_wp2_with fail
    refine HJ.out.mono ?_
    rintro e w5 ⟨rfl, h5, hb5⟩
    rw [flat_nil] at h5
    have H5 := Lib.hid h5
    have HB5 := Lib.hid (HB1.out.trans hb5)
    clear h5 hb5 HJ HB1
    go_wp2_with fail
    refine post_is HQ ?_
    rw [parM, HEE.out]
    exact ⟨rfl, H5.out, HB5.out⟩
  | false =>
    rw [hee] at hen
    have HEN := Lib.hid hen
    have HEE := Lib.hid hee
    have hne1 : parM f .piece r ≠ .out := by
      intro e
      apply hne
      rw [parM, hee, e]
      rfl
    have HN1 := Lib.hid hne1
    have HNE := Lib.hid hne
    have IH := Lib.hid ih
    clear h hne ih hne1 hen hee
    go_enter Tryd.func71, Tryd.ntmps71
    go_wp2_with fail
    refine HEN.out.mono ?_
    rintro e w0 ⟨rfl, h0, hb0⟩
    have hpc := IH.out f (by omega) n0 g s r l w0 h0 (by simp only [sizeM]; omega) HN1.out
    have HW := Lib.hid hpc
    have HB0 := Lib.hid (hb0.mono (show n0 ≤ w.heap.size by omega))
    clear h0 hb0 hpc HEN
    go_wp2_with fail
    refine HW.out.mono ?_
    intro e w1 hd
    cases hd1 : parM f .piece r with
    | out => exact absurd hd1 HN1.out
    | bad r' =>
      rw [hd1] at hd
      obtain ⟨rfl, hb⟩ := hd
      have D1 := Lib.hid hd1
      have HB := Lib.hid (HB0.out.trans hb)
      clear hd1 hb
      go_wp2_with fail
      refine ⟨rfl, post_is HQ ?_⟩
      rw [parM, HEE.out, D1.out]
      exact ⟨rfl, HB.out⟩
    | ok t r1 =>
      rw [hd1] at hd
      obtain ⟨rfl, h1, hb⟩ := hd
      have D1 := Lib.hid hd1
      have hE : parM (f + 1) .way r = parM f (.wayL t) r1 := by rw [parM, HEE.out, hd1]; rfl
      have hne2 : parM f (.wayL t) r1 ≠ .out := by rw [← hE]; exact HNE.out
      have H1 := Lib.hid h1
      have HB := Lib.hid (HB0.out.trans hb)
      have HE := Lib.hid hE
      have HN2 := Lib.hid hne2
      clear hd1 h1 hb hE hne2 HNE HW HB0 HN1
      go_wp2_with fail
      go_loopg [3] f (fun k v wr => ∃ u r2, Hid (k ≤ f) ∧ v = .int .i64 ((l.length + u.size - 1 : Nat) : Int) ∧ Hid (parM k (.wayL u) r2 = parM f (.wayL t) r1) ∧ RdAt n0 g s r2 (l ++ flat l.length u) wr ∧ Below n0 w wr)
      case atStart => exact ⟨t, r1, Nat.le_refl _, rfl, rfl, H1.out, HB.out⟩
      case round =>
        clear H1 HB
        obtain ⟨u, r2, HK, rfl, HP, h2, hb2⟩ := hrel
        obtain ⟨k, rfl⟩ : ∃ k, gk = k + 1 := by
          cases gk with
          | zero => exact absurd (by rw [← HP.out]; rfl) HN2.out
          | succ k => exact ⟨k, rfl⟩
        have hbase := h2.base
        have hlt := h2.lt
        have hfew := h2.few
        rw [len_flat] at hfew
        have hsk := ends_any h2
        have HB2 := Lib.hid hb2
        cases hx : endsB r2 with
        | false =>
          have HX := Lib.hid hx
          rw [hx] at hsk
          have htl := List.length_pos_iff.2 (ends_ne (r := r2) (by rw [hx]; simp))
          have HSK := Lib.hid hsk
          clear h2 hb2 hx hsk
          go_wp2_with fail
          refine HSK.out.mono ?_
          rintro e w3 ⟨rfl, h3, g3⟩
          have HB3 := Lib.hid (HB2.out.trans (g3.mono (show n0 ≤ wr.heap.size by omega)))
          have hne3 : parM k .piece r2 ≠ .out := by
            intro e
            have := HP.out
            rw [parM, HX.out, e] at this
            exact HN2.out this.symm
          have hway := IH.out k (by have := HK.out; omega) n0 g s r2 (l ++ flat l.length u) w3 h3 (by rw [len_flat]; simp only [sizeM]; omega) hne3
          have HW2 := Lib.hid hway
          have HN3 := Lib.hid hne3
          clear h3 g3 hway hne3 HSK HB2
          go_wp2_with fail
          refine HW2.out.mono ?_
          intro e w4 hd
          cases hd2 : parM k .piece r2 with
          | out => exact absurd hd2 HN3.out
          | bad r' =>
            rw [hd2] at hd
            obtain ⟨rfl, hb⟩ := hd
            have D2 := Lib.hid hd2
            have HB := Lib.hid hb
            clear hd2 hb
            go_wp2_with fail
            refine ⟨rfl, post_is HQ ?_⟩
            rw [HE.out, ← HP.out, parM, HX.out, D2.out]
            exact ⟨rfl, HB3.out.trans HB.out⟩
          | ok t2 r3 =>
            rw [hd2] at hd
            obtain ⟨he4, h4, hb4⟩ := hd
            rw [len_flat] at he4
            subst he4
            have hsz := parM_size _ _ _ _ _ hd2
            simp only [sizeM] at hsz
            have D2 := Lib.hid hd2
            have H4 := Lib.hid h4
            have HB4 := Lib.hid (HB3.out.trans hb4)
            have hj := joined_any 3 ((l.length + u.size - 1 : Nat) : Int) ((l.length + u.size + t2.size - 1 : Nat) : Int) h4 (by rw [List.length_append, flat_len, len_flat]; omega)
            have HJ := Lib.hid hj
            clear hd2 h4 hb4 hj HB3 HW2
            go_wp2_with fail
            refine HJ.out.mono ?_
            rintro e w5 ⟨he5, h5, hb5⟩
            rw [List.length_append, flat_len, len_flat] at he5
            subst he5
            rw [flat_seq] at h5
            have H5 := Lib.hid h5
            have HB5 := Lib.hid (HB4.out.trans hb5)
            clear h5 hb5 HJ HB4 H4
            go_wp2_with fail
            go_roundg k
            case measure => omega
            case rel =>
              refine ⟨.seq u t2, r3, show k ≤ f by have := HK.out; omega, ?_, ?_, H5.out, HB5.out⟩
              · congr 1
                rw [Rx.size]
                omega
              · unfold Hid
                rw [← HP.out, parM, HX.out, D2.out]
                rfl
        | true =>
          have HX := Lib.hid hx
          rw [hx] at hsk
          have HSK := Lib.hid hsk
          clear h2 hb2 hx hsk
          go_wp2_with fail
          refine HSK.out.mono ?_
          rintro e w3 ⟨rfl, h3, g3⟩
          have H3 := Lib.hid h3
          have HB3 := Lib.hid (HB2.out.trans (g3.mono (show n0 ≤ wr.heap.size by omega)))
          clear h3 g3 HSK HB2
          go_wp2_with fail
          refine post_is HQ ?_
          rw [HE.out, ← HP.out, parM, HX.out]
          exact ⟨rfl, H3.out, HB3.out⟩

end Go.Proofs.YteedmkokbapkgaaDoor
