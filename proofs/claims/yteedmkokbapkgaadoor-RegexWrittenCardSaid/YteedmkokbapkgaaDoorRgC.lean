/- The reader of patterns: escape, one, stretch, class. No condition. -/
import Derived.Test.YteedmkokbapkgaaDoorRgA
set_option linter.unusedVariables false
set_option linter.unusedSimpArgs false
namespace Go.Proofs.YteedmkokbapkgaaDoor
open Go.RowKit

/-- What a call of the reader answers. -/
def Does {α : Type} (w : World) (n0 g : Nat) (s : List UInt8) (l : List RN) (enc : α → Value) : Res α → Ending → World → Prop
  | .ok v r => GotC w n0 g s r l (enc v)
  | .bad r => Threw w n0 s r
  | .out => fun _ _ => True
theorem Threw.from {w w1 : World} {n0 : Nat} {s r : List UInt8} {e : Ending} {w2 : World} (h : Threw w1 n0 s r e w2) (hb : Below n0 w w1) : Threw w n0 s r e w2 := ⟨h.1, hb.trans h.2⟩
def encU8 (b : UInt8) : Value := .int .u8 (b.toNat : Int)
def encN8 (i : Nat) : Value := .int .u8 (i : Int)
theorem digit_any {n0 g : Nat} {s r : List UInt8} {l : List RN} {w : World} (h : RdAt n0 g s r l w) : Calls Tryd.prog 105 #[.pointer (some ⟨g, 0, none⟩)] w (Does w n0 g s l encN8 (digM r)) := by
  cases hr : digM r with
  | ok v r' => exact digit_ok h hr
  | bad r' => exact digit_bad h hr
  | out => exact absurd hr (digM_out r)
theorem or_low8 : ∀ a : Nat, a < 16 → ∀ b : Nat, b < 16 → bits .or .u8 ((a : Int) * 16) (b : Int) = ((16 * a + b : Nat) : Int) := by decide +kernel
theorem digM_lt {r r' : List UInt8} {i : Nat} (h : digM r = .ok i r') : i < 16 := by
  cases r with
  | nil => cases h
  | cons b t =>
    rw [digM] at h
    split at h
    · rename_i hi
      injection h with h1 _
      subst h1
      exact idx_lt _ _ _ hi
    · cases h
theorem below_of_grown {n0 g : Nat} {w w' : World} (h : w.grownBy w' (some g)) (h1 : n0 ≤ g) (h2 : g < w.heap.size) : Below n0 w w' :=
  (Below.refl n0 w).grown h (by omega) (fun k e => by cases e; exact h1)
theorem hid_ne {a b : UInt8} (h : ¬ a = b) : ((a.toNat : Int) == (b.toNat : Int)) = false := by
  simp only [beq_eq_false_iff_ne, ne_eq]
  intro e
  exact h (UInt8.toNat_inj.1 (by omega))

theorem post_is {Q R : Ending → World → Prop} {e : Ending} {w : World} (h : Hid (R = Q)) (x : R e w) : Q e w := h.out ▸ x

set_option maxRecDepth 20000 in
theorem escape_any {n0 g : Nat} {s r : List UInt8} {l : List RN} {w : World} (h : RdAt n0 g s r l w) : Calls Tryd.prog 104 #[.pointer (some ⟨g, 0, none⟩)] w (Does w n0 g s l encU8 (escM r)) := by
  have hbase := h.base
  have hlt := h.lt
  generalize hQ : Does w n0 g s l encU8 (escM r) = Q
  have HQ := Lib.hid hQ
  clear hQ
  by_cases hx : look r = 120
  · obtain ⟨y, rfl⟩ := look_ne hx (by decide)
    have H := Lib.hid h
    clear h hx
    go_enter Tryd.func104, Tryd.ntmps104
    go_wp2_with fail
    refine (look_any H.out).mono ?_
    rintro e w1 ⟨rfl, h1, hb1⟩
    obtain ⟨k, HK, HL2, hk, c0, c1, f1, HX⟩ := h1.cells
    have hw : wrap64 ((k : Int) + 1) = (k : Int) + 1 := IntWalk.wrap64_in _ ⟨by omega, by omega⟩
    have G1 := Lib.hid ((grown_of_below hb1 (some g)).trans (grown_set w1 g 1 (.int .i64 ((k : Int) + 1))))
    have H1 := Lib.hid (h1.next ((k : Int) + 1) (by rw [← HK.out]))
    clear h1 hb1 HX HL2 H
    rw [look_cons]
    go_wp2_with fail
    refine (digit_any H1.out).mono ?_
    intro e w2 hd
    cases hd1 : digM y with
    | out => exact absurd hd1 (digM_out y)
    | bad r' =>
      rw [hd1] at hd
      obtain ⟨rfl, hb2⟩ := hd
      have HB2 := Lib.hid hb2
      have B1 := below_of_grown G1.out hbase hlt
      have D1 := Lib.hid hd1
      clear hb2 hd1
      go_wp2_with fail
      refine ⟨rfl, post_is HQ ?_⟩
      rw [escM, if_pos rfl, D1.out]
      exact ⟨rfl, B1.trans HB2.out⟩
    | ok i r1 =>
      rw [hd1] at hd
      obtain ⟨rfl, h2, g2⟩ := hd
      have hi := digM_lt hd1
      have hsh : IntKind.u8.wrap ((i : Int) * 16) = (i : Int) * 16 := by rw [IntKind.wrap_u8]; omega
      have H2 := Lib.hid h2
      have G2 := Lib.hid (G1.out.trans g2)
      have D1 := Lib.hid hd1
      clear h2 g2 hd1 G1 H1
      unfold encN8
      go_wp2_with fail
      refine (digit_any H2.out).mono ?_
      intro e w3 hd
      cases hd2 : digM r1 with
      | out => exact absurd hd2 (digM_out r1)
      | bad r' =>
        rw [hd2] at hd
        obtain ⟨rfl, hb2⟩ := hd
        have HB2 := Lib.hid hb2
        have B1 := below_of_grown G2.out hbase hlt
        have D2 := Lib.hid hd2
        clear hb2 hd2
        go_wp2_with fail
        refine ⟨rfl, post_is HQ ?_⟩
        rw [escM, if_pos rfl, D1.out]
        simp only []
        rw [D2.out]
        exact ⟨rfl, B1.trans HB2.out⟩
      | ok j r2 =>
        rw [hd2] at hd
        obtain ⟨rfl, h3, g3⟩ := hd
        have hj := digM_lt hd2
        have hor := or_low8 i hi j hj
        have H3 := Lib.hid h3
        have G3 := Lib.hid (G2.out.trans g3)
        have D2 := Lib.hid hd2
        clear h3 g3 hd2 G2 H2
        unfold encN8
        go_wp2_with fail
        refine post_is HQ ?_
        rw [escM, if_pos rfl, D1.out]
        simp only []
        rw [D2.out]
        refine ⟨?_, H3.out, G3.out⟩
        have e2 : (UInt8.ofNat (16 * i + j)).toNat = 16 * i + j := by
          simp
          omega
        unfold encU8
        rw [e2]
        rfl
  · have hne : (((look r).toNat : Int) == 120) = false := hid_ne (b := 120) hx
    cases hi : idxB ltrs (look r) with
    | some i =>
      have hhas : hasB ltrs (look r) = true := by rw [hasB, hi]; rfl
      cases r with
      | nil => cases hi
      | cons x y =>
        rw [look_cons] at *
        have hi3 : i < 3 := idx_lt _ _ _ hi
        have hat := fun W => letter_at lttd i hi3 (i : Int) rfl W
        have H := Lib.hid h
        have HI := Lib.hid hi
        have HX0 := Lib.hid hx
        have HH := Lib.hid hhas
        clear h hx hi hhas
        go_enter Tryd.func104, Tryd.ntmps104
        go_wp2_with fail
        refine (look_any H.out).mono ?_
        rintro e w1 ⟨rfl, h1, hb1⟩
        obtain ⟨k, HK, HL2, hk, c0, c1, f1, HX⟩ := h1.cells
        have hw : wrap64 ((k : Int) + 1) = (k : Int) + 1 := IntWalk.wrap64_in _ ⟨by omega, by omega⟩
        have G1 := Lib.hid ((grown_of_below hb1 (some g)).trans (grown_set w1 g 1 (.int .i64 ((k : Int) + 1))))
        have H1 := Lib.hid (h1.next ((k : Int) + 1) (by rw [← HK.out]))
        clear h1 hb1 HX HL2 H
        rw [look_cons]
        go_wp2_with fail
        refine (has_list ltrs x _).mono ?_
        rintro e w2 ⟨rfl, rfl⟩
        rw [HH.out]
        go_wp2_with fail
        refine (indexByte_any ltrs x _).mono ?_
        rintro e w2 ⟨rfl, rfl⟩
        rw [HI.out, idxI]
        go_wp2_with fail
        refine post_is HQ ?_
        rw [escM, if_neg HX0.out, HI.out]
        refine ⟨?_, H1.out, G1.out⟩
        rcases (show i = 0 ∨ i = 1 ∨ i = 2 by omega) with rfl | rfl | rfl <;> rfl
    | none =>
      have hhas : hasB ltrs (look r) = false := by rw [hasB, hi]; rfl
      cases hs : signB (look r) with
      | true =>
        cases r with
        | nil => cases hs
        | cons x y =>
          rw [look_cons] at *
          have H := Lib.hid h
          have HI := Lib.hid hi
          have HX0 := Lib.hid hx
          have HH := Lib.hid hhas
          have HS := Lib.hid hs
          clear h hx hi hhas hs
          go_enter Tryd.func104, Tryd.ntmps104
          go_wp2_with fail
          refine (look_any H.out).mono ?_
          rintro e w1 ⟨rfl, h1, hb1⟩
          obtain ⟨k, HK, HL2, hk, c0, c1, f1, HX⟩ := h1.cells
          have hw : wrap64 ((k : Int) + 1) = (k : Int) + 1 := IntWalk.wrap64_in _ ⟨by omega, by omega⟩
          have G1 := Lib.hid ((grown_of_below hb1 (some g)).trans (grown_set w1 g 1 (.int .i64 ((k : Int) + 1))))
          have H1 := Lib.hid (h1.next ((k : Int) + 1) (by rw [← HK.out]))
          clear h1 hb1 HX HL2 H
          rw [look_cons]
          go_wp2_with fail
          refine (has_list ltrs x _).mono ?_
          rintro e w2 ⟨rfl, rfl⟩
          rw [HH.out]
          go_wp2_with fail
          refine (sign_any x _).mono ?_
          rintro e w2 ⟨rfl, rfl⟩
          rw [HS.out]
          go_wp2_with fail
          refine post_is HQ ?_
          rw [escM, if_neg HX0.out, HI.out]
          simp only []
          rw [if_pos HS.out]
          exact ⟨rfl, H1.out, G1.out⟩
      | false =>
        have hE : escM r = .bad r := by
          cases r with
          | nil => rfl
          | cons x y =>
            rw [look_cons] at hx hi hs
            rw [escM, if_neg hx, hi]
            simp only []
            rw [hs]
            simp
        have H := Lib.hid h
        have HE := Lib.hid hE
        have HH := Lib.hid hhas
        have HS := Lib.hid hs
        clear h hx hi hhas hs hE
        go_enter Tryd.func104, Tryd.ntmps104
        go_wp2_with fail
        refine (look_any H.out).mono ?_
        rintro e w1 ⟨rfl, h1, hb1⟩
        obtain ⟨k, HK, HL2, hk, c0, c1, f1, HX⟩ := h1.cells
        have HB := Lib.hid hb1
        clear h1 hb1 HX HL2 H
        go_wp2_with fail
        refine (has_list ltrs (look r) _).mono ?_
        rintro e w2 ⟨rfl, rfl⟩
        rw [HH.out]
        go_wp2_with fail
        refine (sign_any (look r) _).mono ?_
        rintro e w2 ⟨rfl, rfl⟩
        rw [HS.out]
        go_wp2_with fail
        refine ⟨rfl, post_is HQ ?_⟩
        rw [HE.out]
        exact ⟨by rw [← HK.out], HB.out.mono (by omega)⟩

set_option maxRecDepth 20000 in
theorem one_any {n0 g : Nat} {s r : List UInt8} {l : List RN} {w : World} (sg : List UInt8) (h : RdAt n0 g s r l w) : Calls Tryd.prog 101 #[.pointer (some ⟨g, 0, none⟩), .string ⟨sg.toArray⟩] w (Does w n0 g s l encU8 (oneM sg r)) := by
  have hbase := h.base
  have hlt := h.lt
  generalize hQ : Does w n0 g s l encU8 (oneM sg r) = Q
  have HQ := Lib.hid hQ
  clear hQ
  have hsk := skips_any (l := l) (b := 92) (by decide) h
  by_cases hx : look r = 92
  · obtain ⟨y, rfl⟩ := look_ne hx (by decide)
    rw [if_pos hx, decide_eq_true hx] at hsk
    have HSK := Lib.hid hsk
    clear h hx hsk
    go_enter Tryd.func101, Tryd.ntmps101
    go_wp2_with fail
    refine HSK.out.mono ?_
    rintro e w1 ⟨rfl, h1, g1⟩
    have H1 := Lib.hid h1
    have G1 := Lib.hid g1
    clear h1 g1
    go_wp2_with fail
    refine (escape_any H1.out).mono ?_
    intro e w2 hd
    rw [List.tail_cons] at hd
    cases hd1 : escM y with
    | out => exact absurd hd1 (escM_out y)
    | bad r' =>
      rw [hd1] at hd
      obtain ⟨rfl, hb2⟩ := hd
      have HB2 := Lib.hid hb2
      have B1 := below_of_grown G1.out hbase hlt
      have D1 := Lib.hid hd1
      clear hb2 hd1
      go_wp2_with fail
      refine ⟨rfl, post_is HQ ?_⟩
      rw [oneM, if_pos rfl, D1.out]
      exact ⟨rfl, B1.trans HB2.out⟩
    | ok c r1 =>
      rw [hd1] at hd
      obtain ⟨rfl, h2, g2⟩ := hd
      have H2 := Lib.hid h2
      have G2 := Lib.hid (G1.out.trans g2)
      have D1 := Lib.hid hd1
      clear h2 g2 hd1 G1 H1
      unfold encU8
      go_wp2_with fail
      refine post_is HQ ?_
      rw [oneM, if_pos rfl, D1.out]
      exact ⟨rfl, H2.out, G2.out⟩
  · rw [if_neg hx, decide_eq_false hx] at hsk
    have HSK := Lib.hid hsk
    cases hp : plainB (look r) sg with
    | true =>
      cases r with
      | nil => cases hp
      | cons x y =>
        rw [look_cons] at *
        have HP := Lib.hid hp
        have HX0 := Lib.hid hx
        clear h hx hsk hp
        go_enter Tryd.func101, Tryd.ntmps101
        go_wp2_with fail
        refine HSK.out.mono ?_
        rintro e w1 ⟨rfl, h1, g1⟩
        have H1 := Lib.hid h1
        have G1 := Lib.hid g1
        clear h1 g1
        go_wp2_with fail
        refine (look_any H1.out).mono ?_
        rintro e w2 ⟨rfl, h2, hb2⟩
        obtain ⟨k, HK, HL2, hk, c0, c1, f1, HX⟩ := h2.cells
        have hw : wrap64 ((k : Int) + 1) = (k : Int) + 1 := IntWalk.wrap64_in _ ⟨by omega, by omega⟩
        have G2 := Lib.hid (G1.out.trans ((grown_of_below hb2 (some g)).trans (grown_set w2 g 1 (.int .i64 ((k : Int) + 1)))))
        have H2 := Lib.hid (h2.next ((k : Int) + 1) (by rw [← HK.out]))
        clear h2 hb2 HX HL2 H1 G1
        rw [look_cons]
        go_wp2_with fail
        refine (plain_any sg x _).mono ?_
        rintro e w3 ⟨rfl, rfl⟩
        rw [HP.out]
        go_wp2_with fail
        refine post_is HQ ?_
        rw [oneM, if_neg HX0.out, if_pos HP.out]
        exact ⟨rfl, H2.out, G2.out⟩
    | false =>
      have hE : oneM sg r = .bad r := by
        cases r with
        | nil => rfl
        | cons x y =>
          rw [look_cons] at hx hp
          rw [oneM, if_neg hx, hp]
          simp
      have HP := Lib.hid hp
      have HE := Lib.hid hE
      clear h hx hsk hp hE
      go_enter Tryd.func101, Tryd.ntmps101
      go_wp2_with fail
      refine HSK.out.mono ?_
      rintro e w1 ⟨rfl, h1, g1⟩
      have H1 := Lib.hid h1
      have G1 := Lib.hid g1
      clear h1 g1
      go_wp2_with fail
      refine (look_any H1.out).mono ?_
      rintro e w2 ⟨rfl, h2, hb2⟩
      obtain ⟨k, HK, HL2, hk, c0, c1, f1, HX⟩ := h2.cells
      have B1 := Lib.hid ((below_of_grown G1.out hbase hlt).trans (hb2.mono (by have := H1.out.lt; omega)))
      clear h2 hb2 HX HL2 H1 G1
      go_wp2_with fail
      refine (plain_any sg (look r) _).mono ?_
      rintro e w3 ⟨rfl, rfl⟩
      rw [HP.out]
      go_wp2_with fail
      refine ⟨rfl, post_is HQ ?_⟩
      rw [HE.out]
      exact ⟨by rw [← HK.out], B1.out⟩

end Go.Proofs.YteedmkokbapkgaaDoor
