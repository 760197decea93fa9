/- The reader of patterns: piece, atom, and all four together. No condition. -/
import Derived.Test.YteedmkokbapkgaaDoorRgH
set_option linter.unusedVariables false
set_option linter.unusedSimpArgs false
namespace Go.Proofs.YteedmkokbapkgaaDoor
open Go.RowKit

theorem flat_star (l : List RN) (t : Rx) : (l ++ flat l.length t) ++ [⟨5, ((l.length + t.size - 1 : Nat) : Int), 0, nilS⟩] = l ++ flat l.length (.star t) := by
  rw [flat, List.append_assoc]
theorem flat_plus (l : List RN) (t : Rx) : (l ++ flat l.length t) ++ [⟨6, ((l.length + t.size - 1 : Nat) : Int), 0, nilS⟩] = l ++ flat l.length (.plus t) := by
  rw [flat, List.append_assoc]
theorem flat_maybe (l : List RN) (t : Rx) : (l ++ flat l.length t) ++ [⟨1, 0, 0, nilS⟩] ++ [⟨4, ((l.length + t.size - 1 : Nat) : Int), ((l.length + t.size : Nat) : Int), nilS⟩] = l ++ flat l.length (.alt t .nil) := by
  rw [flat, flat]
  simp [List.append_assoc, Rx.size]
theorem reps_cons (b : UInt8) (r : List UInt8) (t : Rx) : reps t (b :: r) = if b = 42 then reps (.star t) r else if b = 43 then reps (.plus t) r else if b = 63 then reps (.alt t .nil) r else (t, b :: r) := by rw [reps]
theorem reps_end (r : List UInt8) (t : Rx) (h1 : ¬ look r = 42) (h2 : ¬ look r = 43) (h3 : ¬ look r = 63) : reps t r = (t, r) := by
  cases r with
  | nil => rfl
  | cons b r =>
    rw [look_cons] at h1 h2 h3
    rw [reps_cons, if_neg h1, if_neg h2, if_neg h3]

/-- A byte that is skipped, or not, as a step of the reader. -/
theorem skip_yes {n0 g : Nat} {s r : List UInt8} {l : List RN} {w0 w : World} (b : UInt8) (hb : b ≠ 0) (h : RdAt n0 g s r l w) (h0 : Below n0 w0 w) (hx : look r = b) : Calls Tryd.prog 72 #[.pointer (some ⟨g, 0, none⟩), .int .u8 (b.toNat : Int)] w
    fun e w' => e = .returned (.bool true) ∧ RdAt n0 g s r.tail l w' ∧ Below n0 w0 w' := by
  refine (skips_any b hb h).mono ?_
  rw [if_pos hx, decide_eq_true hx]
  rintro e w' ⟨rfl, h1, g1⟩
  exact ⟨rfl, h1, h0.trans (below_of_grown g1 h.base h.lt)⟩
theorem skip_no {n0 g : Nat} {s r : List UInt8} {l : List RN} {w0 w : World} (b : UInt8) (hb : b ≠ 0) (h : RdAt n0 g s r l w) (h0 : Below n0 w0 w) (hx : ¬ look r = b) : Calls Tryd.prog 72 #[.pointer (some ⟨g, 0, none⟩), .int .u8 (b.toNat : Int)] w
    fun e w' => e = .returned (.bool false) ∧ RdAt n0 g s r l w' ∧ Below n0 w0 w' := by
  refine (skips_any b hb h).mono ?_
  rw [if_neg hx, decide_eq_false hx]
  rintro e w' ⟨rfl, h1, g1⟩
  exact ⟨rfl, h1, h0.trans (below_of_grown g1 h.base h.lt)⟩
theorem joined_from {n0 g : Nat} {s r : List UInt8} {l : List RN} {w0 w : World} (k a b : Int) (h : RdAt n0 g s r l w) (h0 : Below n0 w0 w) (hm : l.length + 2 * r.length + 1 ≤ 2060) : Calls Tryd.prog 73 #[.pointer (some ⟨g, 0, none⟩), .int .i64 k, .int .i64 a, .int .i64 b] w
    (GotM w0 n0 g s r (l ++ [⟨k, a, b, nilS⟩]) (.int .i64 (l.length : Int))) := by
  refine (joined_any k a b h hm).mono ?_
  rintro e w' ⟨rfl, h1, b1⟩
  exact ⟨rfl, h1, h0.trans b1⟩

set_option maxRecDepth 20000 in
set_option maxHeartbeats 2000000 in
theorem piece_step (f : Nat) (ih : ∀ f', f' < f → Par .atom 97 f') : Par .piece 86 f := by
  intro n0 g s r l w h hm hne
  obtain ⟨f, rfl⟩ : ∃ f', f = f' + 1 := by
    cases f with
    | zero => exact absurd rfl hne
    | succ f' => exact ⟨f', rfl⟩
  have hne1 : parM f .atom r ≠ .out := by
    intro e
    apply hne
    rw [parM, e]
  have hway := ih f (by omega) n0 g s r l w h hm hne1
  generalize hQ : Reads w n0 g s l (parM (f + 1) .piece r) = Q
  have HQ := Lib.hid hQ
  have HW := Lib.hid hway
  have HNE := Lib.hid hne1
  clear hQ hway h hne hne1 ih hm
  go_enter Tryd.func86, Tryd.ntmps86
  go_wp2_with fail
  refine HW.out.mono ?_
  intro e w1 hd
  cases hd1 : parM f .atom r with
  | out => exact absurd hd1 HNE.out
  | bad r' =>
    rw [hd1] at hd
    obtain ⟨rfl, hb⟩ := hd
    have D1 := Lib.hid hd1
    have HB := Lib.hid hb
    clear hd1 hb
    go_wp2_with fail
    refine ⟨rfl, post_is HQ ?_⟩
    rw [parM, D1.out]
    exact ⟨rfl, HB.out⟩
  | ok t r1 =>
    rw [hd1] at hd
    obtain ⟨rfl, h1, hb⟩ := hd
    have hE : parM (f + 1) .piece r = .ok (reps t r1).1 (reps t r1).2 := by rw [parM, hd1]
    have H1 := Lib.hid h1
    have HB := Lib.hid hb
    have HE := Lib.hid hE
    clear hd1 h1 hb hE HNE HW
    go_wp2_with fail
    go_loopg [3] (r1.length + 1) (fun k v wr => ∃ u r2, Hid (r2.length < k) ∧ v = .int .i64 ((l.length + u.size - 1 : Nat) : Int) ∧ Hid (reps u r2 = reps t r1) ∧ RdAt n0 g s r2 (l ++ flat l.length u) wr ∧ Below n0 w wr)
    case atStart => exact ⟨t, r1, Nat.lt_succ_self _, rfl, rfl, H1.out, HB.out⟩
    case round =>
      clear H1 HB
      obtain ⟨u, r2, HK, rfl, HP, h2, hb2⟩ := hrel
      have hfew := h2.few
      rw [len_flat] at hfew
      have hup := u.size_pos
      have H2 := Lib.hid h2
      have HB2 := Lib.hid hb2
      clear h2 hb2
      by_cases hx : look r2 = 42
      · obtain ⟨y, rfl⟩ := look_ne hx (by decide)
        simp only [List.length_cons] at hfew
        have HX := Lib.hid hx
        clear hx
        go_wp2_with fail
        refine (skip_yes 42 (by decide) H2.out HB2.out HX.out).mono ?_
        rintro e w3 ⟨rfl, h3, b3⟩
        rw [List.tail_cons] at h3
        have HJ := Lib.hid (joined_from 5 ((l.length + u.size - 1 : Nat) : Int) 0 h3 b3 (by rw [len_flat]; omega))
        clear h3 b3 H2 HB2
        go_wp2_with fail
        refine HJ.out.mono ?_
        rintro e w5 ⟨he5, h5, hb5⟩
        rw [len_flat] at he5
        subst he5
        rw [flat_star] at h5
        have H5 := Lib.hid h5
        have HB5 := Lib.hid hb5
        clear h5 hb5 HJ
        go_wp2_with fail
        go_roundg (y.length + 1)
        case measure => have := HK.out; simp at this; omega
        case rel =>
          refine ⟨.star u, y, Nat.lt_succ_self _, ?_, ?_, H5.out, HB5.out⟩
          · first | (congr 1; done) | (congr 1; simp only [Rx.size]; omega)
          · unfold Hid
            rw [← HP.out, reps_cons, if_pos rfl]
      by_cases hx2 : look r2 = 43
      · obtain ⟨y, rfl⟩ := look_ne hx2 (by decide)
        simp only [List.length_cons] at hfew
        have HX := Lib.hid hx
        have HX2 := Lib.hid hx2
        clear hx hx2
        go_wp2_with fail
        refine (skip_no 42 (by decide) H2.out HB2.out HX.out).mono ?_
        rintro e w2 ⟨rfl, h2, b2⟩
        have H2' := Lib.hid h2
        have HB2' := Lib.hid b2
        clear h2 b2 H2 HB2
        go_wp2_with fail
        refine (skip_yes 43 (by decide) H2'.out HB2'.out HX2.out).mono ?_
        rintro e w3 ⟨rfl, h3, b3⟩
        rw [List.tail_cons] at h3
        have HJ := Lib.hid (joined_from 6 ((l.length + u.size - 1 : Nat) : Int) 0 h3 b3 (by rw [len_flat]; omega))
        clear h3 b3 H2' HB2'
        go_wp2_with fail
        refine HJ.out.mono ?_
        rintro e w5 ⟨he5, h5, hb5⟩
        rw [len_flat] at he5
        subst he5
        rw [flat_plus] at h5
        have H5 := Lib.hid h5
        have HB5 := Lib.hid hb5
        clear h5 hb5 HJ
        go_wp2_with fail
        go_roundg (y.length + 1)
        case measure => have := HK.out; simp at this; omega
        case rel =>
          refine ⟨.plus u, y, Nat.lt_succ_self _, ?_, ?_, H5.out, HB5.out⟩
          · first | (congr 1; done) | (congr 1; simp only [Rx.size]; omega)
          · unfold Hid
            rw [← HP.out, reps_cons, if_neg (by decide), if_pos rfl]
      by_cases hx3 : look r2 = 63
      · obtain ⟨y, rfl⟩ := look_ne hx3 (by decide)
        simp only [List.length_cons] at hfew
        have HX := Lib.hid hx
        have HX2 := Lib.hid hx2
        have HX3 := Lib.hid hx3
        clear hx hx2 hx3
        go_wp2_with fail
        refine (skip_no 42 (by decide) H2.out HB2.out HX.out).mono ?_
        rintro e w2 ⟨rfl, h2, b2⟩
        have H2' := Lib.hid h2
        have HB2' := Lib.hid b2
        clear h2 b2 H2 HB2
        go_wp2_with fail
        refine (skip_no 43 (by decide) H2'.out HB2'.out HX2.out).mono ?_
        rintro e w2 ⟨rfl, h2, b2⟩
        have H3 := Lib.hid h2
        have HB3 := Lib.hid b2
        clear h2 b2 H2' HB2'
        go_wp2_with fail
        refine (skip_yes 63 (by decide) H3.out HB3.out HX3.out).mono ?_
        rintro e w3 ⟨rfl, h3, b3⟩
        rw [List.tail_cons] at h3
        have HJ := Lib.hid (joined_from 1 0 0 h3 b3 (by rw [len_flat]; omega))
        clear h3 b3 H3 HB3
        go_wp2_with fail
        refine HJ.out.mono ?_
        rintro e w5 ⟨he5, h5, hb5⟩
        rw [len_flat] at he5
        subst he5
        have HJ2 := Lib.hid (joined_from 4 ((l.length + u.size - 1 : Nat) : Int) ((l.length + u.size : Nat) : Int) h5 hb5 (by rw [List.length_append, len_flat]; simp; omega))
        clear h5 hb5 HJ
        go_wp2_with fail
        refine HJ2.out.mono ?_
        rintro e w6 ⟨he6, h6, hb6⟩
        rw [List.length_append, len_flat] at he6
        subst he6
        rw [flat_maybe] at h6
        have H6 := Lib.hid h6
        have HB6 := Lib.hid hb6
        clear h6 hb6 HJ2
        go_wp2_with fail
        go_roundg (y.length + 1)
        case measure => have := HK.out; simp at this; omega
        case rel =>
          refine ⟨.alt u .nil, y, Nat.lt_succ_self _, ?_, ?_, H6.out, HB6.out⟩
          · first | (congr 1; done) | (congr 1; simp only [Rx.size]; omega)
          · unfold Hid
            rw [← HP.out, reps_cons, if_neg (by decide), if_neg (by decide), if_pos rfl]
      · have HX := Lib.hid hx
        have HX2 := Lib.hid hx2
        have HX3 := Lib.hid hx3
        clear hx hx2 hx3
        go_wp2_with fail
        refine (skip_no 42 (by decide) H2.out HB2.out HX.out).mono ?_
        rintro e w2 ⟨rfl, h2, b2⟩
        have H2' := Lib.hid h2
        have HB2' := Lib.hid b2
        clear h2 b2 H2 HB2
        go_wp2_with fail
        refine (skip_no 43 (by decide) H2'.out HB2'.out HX2.out).mono ?_
        rintro e w2 ⟨rfl, h2, b2⟩
        have H3 := Lib.hid h2
        have HB3 := Lib.hid b2
        clear h2 b2 H2' HB2'
        go_wp2_with fail
        refine (skip_no 63 (by decide) H3.out HB3.out HX3.out).mono ?_
        rintro e w3 ⟨rfl, h3, b3⟩
        have H4 := Lib.hid h3
        have HB4 := Lib.hid b3
        clear h3 b3 H3 HB3
        go_wp2_with fail
        refine post_is HQ ?_
        rw [HE.out, ← HP.out, reps_end r2 u HX.out HX2.out HX3.out]
        exact ⟨rfl, H4.out, HB4.out⟩

theorem par_open (f : Nat) (y : List UInt8) : parM (f + 1) .atom (40 :: y) = (match parM f .ways y with
    | .ok t r1 => if look r1 = 41 then .ok t r1.tail else .bad r1
    | x => x) := by
  rw [parM, if_pos (look_cons 40 y)]
  rfl
theorem par_class (f : Nat) (y : List UInt8) : parM (f + 1) .atom (91 :: y) = (match clsM y with
    | .ok s r1 => .ok (.set s) r1
    | .bad x => .bad x
    | .out => .out) := by
  rw [parM, if_neg (by rw [look_cons]; decide), if_pos (look_cons 91 y)]
  rfl
theorem par_dot (f : Nat) (y : List UInt8) : parM (f + 1) .atom (46 :: y) = .ok (.set dotS) y := by
  rw [parM, if_neg (by rw [look_cons]; decide), if_neg (by rw [look_cons]; decide), if_pos (look_cons 46 y)]
  rfl
theorem flat_set (l : List RN) (z : S4) : l ++ [⟨2, 0, 0, z⟩] = l ++ flat l.length (.set z) := rfl
theorem leaf_from {n0 g : Nat} {s r : List UInt8} {l : List RN} {w0 w : World} (z : S4) (h : RdAt n0 g s r l w) (h0 : Below n0 w0 w) (hm : l.length + 2 * r.length + 1 ≤ 2060) : Calls Tryd.prog 99 #[.pointer (some ⟨g, 0, none⟩), encS z] w
    (GotM w0 n0 g s r (l ++ flat l.length (.set z)) (.int .i64 (l.length : Int))) := by
  refine (leaf_any z h hm).mono ?_
  rintro e w' ⟨rfl, h1, b1⟩
  exact ⟨rfl, h1, h0.trans b1⟩

set_option maxRecDepth 20000 in
set_option maxHeartbeats 2000000 in
theorem atom_step (f : Nat) (ih : ∀ f', f' < f → Par .ways 61 f') : Par .atom 97 f := by
  intro n0 g s r l w h hm hne
  obtain ⟨f, rfl⟩ : ∃ f', f = f' + 1 := by
    cases f with
    | zero => exact absurd rfl hne
    | succ f' => exact ⟨f', rfl⟩
  simp only [sizeM] at hm
  have hbase := h.base
  generalize hQ : Reads w n0 g s l (parM (f + 1) .atom r) = Q
  have HQ := Lib.hid hQ
  have H := Lib.hid h
  have HB := Lib.hid (Below.refl n0 w)
  clear hQ h
  by_cases hx : look r = 40
  · obtain ⟨y, rfl⟩ := look_ne hx (by decide)
    simp only [List.length_cons] at hm
    have hne1 : parM f .ways y ≠ .out := by
      intro e
      apply hne
      rw [par_open, e]
    have HX := Lib.hid hx
    have HN1 := Lib.hid hne1
    have IH := Lib.hid ih
    clear hx hne hne1 ih
    go_enter Tryd.func97, Tryd.ntmps97
    go_wp2_with fail
    refine (skip_yes 40 (by decide) H.out HB.out HX.out).mono ?_
    rintro e w1 ⟨rfl, h1, b1⟩
    rw [List.tail_cons] at h1
    have HW := Lib.hid (IH.out f (by omega) n0 g s y l w1 h1 (by simp only [sizeM]; omega) HN1.out)
    have HB1 := Lib.hid b1
    clear h1 b1 H HB
    go_wp2_with fail
    refine HW.out.mono ?_
    intro e w2 hd
    cases hd1 : parM f .ways y with
    | out => exact absurd hd1 HN1.out
    | bad r' =>
      rw [hd1] at hd
      obtain ⟨rfl, hb⟩ := hd
      have D1 := Lib.hid hd1
      have HB2 := Lib.hid (HB1.out.trans hb)
      clear hd1 hb
      go_wp2_with fail
      refine ⟨rfl, post_is HQ ?_⟩
      rw [par_open, D1.out]
      exact ⟨rfl, HB2.out⟩
    | ok t r1 =>
      rw [hd1] at hd
      obtain ⟨rfl, h2, hb⟩ := hd
      have D1 := Lib.hid hd1
      have H2 := Lib.hid h2
      have HB2 := Lib.hid (HB1.out.trans hb)
      clear hd1 h2 hb HW HB1
      by_cases hy : look r1 = 41
      · have HY := Lib.hid hy
        clear hy
        go_wp2_with fail
        refine (skip_yes 41 (by decide) H2.out HB2.out HY.out).mono ?_
        rintro e w3 ⟨rfl, h3, b3⟩
        have H3 := Lib.hid h3
        have HB3 := Lib.hid b3
        clear h3 b3 H2 HB2
        go_wp2_with fail
        refine post_is HQ ?_
        rw [par_open, D1.out]
        simp only []
        rw [if_pos HY.out]
        exact ⟨rfl, H3.out, HB3.out⟩
      · have HY := Lib.hid hy
        clear hy
        go_wp2_with fail
        refine (skip_no 41 (by decide) H2.out HB2.out HY.out).mono ?_
        rintro e w3 ⟨rfl, h3, b3⟩
        obtain ⟨k, HK, HL2, hk, c0, c1, f1, HX2⟩ := h3.cells
        have HB3 := Lib.hid b3
        clear h3 b3 H2 HB2 HX2
        go_wp2_with fail
        refine ⟨rfl, post_is HQ ?_⟩
        rw [par_open, D1.out]
        simp only []
        rw [if_neg HY.out]
        exact ⟨by rw [← HK.out], HB3.out⟩
  clear ih
  by_cases hx2 : look r = 91
  · obtain ⟨y, rfl⟩ := look_ne hx2 (by decide)
    simp only [List.length_cons] at hm
    have HX := Lib.hid hx
    have HX2 := Lib.hid hx2
    clear hx hx2 hne
    go_enter Tryd.func97, Tryd.ntmps97
    go_wp2_with fail
    refine (skip_no 40 (by decide) H.out HB.out HX.out).mono ?_
    rintro e w1 ⟨rfl, h1, b1⟩
    have H1 := Lib.hid h1
    have HB1 := Lib.hid b1
    clear h1 b1 H HB
    go_wp2_with fail
    refine (skip_yes 91 (by decide) H1.out HB1.out HX2.out).mono ?_
    rintro e w2 ⟨rfl, h2, b2⟩
    rw [List.tail_cons] at h2
    have hlt := h2.lt
    have H2 := Lib.hid h2
    have HB2 := Lib.hid b2
    clear h2 b2 H1 HB1
    go_wp2_with fail
    refine (class_any H2.out).mono ?_
    intro e w3 hd
    cases hd1 : clsM y with
    | out => exact absurd hd1 (clsM_out y)
    | bad r' =>
      rw [hd1] at hd
      obtain ⟨rfl, hb⟩ := hd
      have D1 := Lib.hid hd1
      have HB3 := Lib.hid (HB2.out.trans hb)
      clear hd1 hb
      go_wp2_with fail
      refine ⟨rfl, post_is HQ ?_⟩
      rw [par_class, D1.out]
      exact ⟨rfl, HB3.out⟩
    | ok z r1 =>
      rw [hd1] at hd
      obtain ⟨rfl, h3, g3⟩ := hd
      have hcl := clsM_len hd1
      have D1 := Lib.hid hd1
      have HJ := Lib.hid (leaf_from z h3 (HB2.out.trans (below_of_grown g3 hbase hlt)) (by omega))
      clear hd1 h3 g3 H2 HB2
      unfold encS at HJ ⊢
      go_wp2_with fail
      refine HJ.out.mono ?_
      rintro e w5 ⟨rfl, h5, hb5⟩
      have H5 := Lib.hid h5
      have HB5 := Lib.hid hb5
      clear h5 hb5 HJ
      go_wp2_with fail
      refine post_is HQ ?_
      rw [par_class, D1.out]
      exact ⟨rfl, H5.out, HB5.out⟩
  by_cases hx3 : look r = 46
  · obtain ⟨y, rfl⟩ := look_ne hx3 (by decide)
    simp only [List.length_cons] at hm
    have HX := Lib.hid hx
    have HX2 := Lib.hid hx2
    have HX3 := Lib.hid hx3
    clear hx hx2 hx3 hne
    go_enter Tryd.func97, Tryd.ntmps97
    go_wp2_with fail
    refine (skip_no 40 (by decide) H.out HB.out HX.out).mono ?_
    rintro e w1 ⟨rfl, h1, b1⟩
    have H1 := Lib.hid h1
    have HB1 := Lib.hid b1
    clear h1 b1 H HB
    go_wp2_with fail
    refine (skip_no 91 (by decide) H1.out HB1.out HX2.out).mono ?_
    rintro e w2 ⟨rfl, h2, b2⟩
    have H2 := Lib.hid h2
    have HB2 := Lib.hid b2
    clear h2 b2 H1 HB1
    go_wp2_with fail
    refine (skip_yes 46 (by decide) H2.out HB2.out HX3.out).mono ?_
    rintro e w3 ⟨rfl, h3, b3⟩
    rw [List.tail_cons] at h3
    have hlt := h3.lt
    have H3 := Lib.hid h3
    have HB3 := Lib.hid b3
    clear h3 b3 H2 HB2
    go_wp2_with fail
    refine (dot_any _).mono ?_
    rintro e w4 ⟨rfl, hb4⟩
    have HJ := Lib.hid (leaf_from dotS (H3.out.below hb4) (HB3.out.trans (hb4.mono (by omega))) (by omega))
    clear hb4 H3 HB3
    unfold encS at HJ ⊢
    go_wp2_with fail
    refine HJ.out.mono ?_
    rintro e w5 ⟨rfl, h5, hb5⟩
    have H5 := Lib.hid h5
    have HB5 := Lib.hid hb5
    clear h5 hb5 HJ
    go_wp2_with fail
    refine post_is HQ ?_
    rw [par_dot]
    exact ⟨rfl, H5.out, HB5.out⟩
  · have HX := Lib.hid hx
    have HX2 := Lib.hid hx2
    have HX3 := Lib.hid hx3
    clear hx hx2 hx3 hne
    go_enter Tryd.func97, Tryd.ntmps97
    go_wp2_with fail
    refine (skip_no 40 (by decide) H.out HB.out HX.out).mono ?_
    rintro e w1 ⟨rfl, h1, b1⟩
    have H1 := Lib.hid h1
    have HB1 := Lib.hid b1
    clear h1 b1 H HB
    go_wp2_with fail
    refine (skip_no 91 (by decide) H1.out HB1.out HX2.out).mono ?_
    rintro e w2 ⟨rfl, h2, b2⟩
    have H2 := Lib.hid h2
    have HB2 := Lib.hid b2
    clear h2 b2 H1 HB1
    go_wp2_with fail
    refine (skip_no 46 (by decide) H2.out HB2.out HX3.out).mono ?_
    rintro e w3 ⟨rfl, h3, b3⟩
    have hlt := h3.lt
    have H3 := Lib.hid h3
    have HB3 := Lib.hid b3
    clear h3 b3 H2 HB2
    go_wp2_with fail
    refine (one_any sgA H3.out).mono ?_
    intro e w4 hd
    cases hd1 : oneM sgA r with
    | out => exact absurd hd1 (oneM_out _ r)
    | bad r' =>
      rw [hd1] at hd
      obtain ⟨rfl, hb⟩ := hd
      have D1 := Lib.hid hd1
      have HB4 := Lib.hid (HB3.out.trans hb)
      clear hd1 hb
      go_wp2_with fail
      refine ⟨rfl, post_is HQ ?_⟩
      rw [parM, if_neg HX.out, if_neg HX2.out, if_neg HX3.out, D1.out]
      exact ⟨rfl, HB4.out⟩
    | ok c r1 =>
      rw [hd1] at hd
      obtain ⟨rfl, h4, g4⟩ := hd
      have hcl := oneM_len hd1
      have D1 := Lib.hid hd1
      have H4 := Lib.hid h4
      have HB4 := Lib.hid (HB3.out.trans (below_of_grown g4 hbase hlt))
      clear hd1 h4 g4 H3 HB3
      unfold encU8
      go_wp2_with fail
      refine (of_one c _).mono ?_
      rintro e w5 ⟨rfl, hb5⟩
      have B5 := bl_trans (bl_alloc (Below.refl w4.heap.size w4) (.cells #[.int .u8 (c.toNat : Int)] 5)) hb5
      have hlt4 := H4.out.lt
      have HJ := Lib.hid (leaf_from (oneS c.toNat) (H4.out.below B5) (HB4.out.trans (B5.mono (by omega))) (by omega))
      clear hb5 B5 H4 HB4
      unfold encS at HJ ⊢
      go_wp2_with fail
      refine HJ.out.mono ?_
      rintro e w6 ⟨rfl, h6, hb6⟩
      have H6 := Lib.hid h6
      have HB6 := Lib.hid hb6
      clear h6 hb6 HJ
      go_wp2_with fail
      refine post_is HQ ?_
      rw [parM, if_neg HX.out, if_neg HX2.out, if_neg HX3.out, D1.out]
      exact ⟨rfl, H6.out, HB6.out⟩

/-- All four. -/
theorem par_all : ∀ f : Nat, (∀ f', f' < f → Par .ways 61 f' ∧ Par .way 71 f' ∧ Par .piece 86 f' ∧ Par .atom 97 f')
  | 0, f', h => absurd h (by omega)
  | f + 1, f', h => by
    have ih := par_all f
    have hs : ∀ k, k < f' → Par .ways 61 k ∧ Par .way 71 k ∧ Par .piece 86 k ∧ Par .atom 97 k := fun k hk => ih k (by omega)
    exact ⟨ways_step f' fun k hk => (hs k hk).2.1, way_step f' fun k hk => (hs k hk).2.2.1, piece_step f' fun k hk => (hs k hk).2.2.2, atom_step f' fun k hk => (hs k hk).1⟩
theorem ways_any (f : Nat) : Par .ways 61 f := (par_all (f + 1) f (by omega)).1

end Go.Proofs.YteedmkokbapkgaaDoor
