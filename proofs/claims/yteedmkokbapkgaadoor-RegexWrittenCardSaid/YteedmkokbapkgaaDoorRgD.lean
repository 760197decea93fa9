/- The reader of patterns: stretch and class; sets as four words. No condition. -/
import Derived.Test.YteedmkokbapkgaaDoorRgC
set_option linter.unusedVariables false
set_option linter.unusedSimpArgs false
namespace Go.Proofs.YteedmkokbapkgaaDoor
open Go.RowKit

def encS (s : S4) : Value := .agg (row4 s.f)
theorem row_s4 (f : Nat → BitVec 64) : row4 f = row4 (s4 f).f := row4_congr (s4_f f).symm
def GotS (w : World) (s : S4) (e : Ending) (w' : World) : Prop := e = .returned (encS s) ∧ Below w.heap.size w w'
theorem Got4.gotS {w : World} {f : Nat → BitVec 64} {e : Ending} {w' : World} (h : Got4 w f e w') {s : S4} (hs : s = s4 f) : GotS w s e w' := by
  subst hs
  refine ⟨?_, h.2⟩
  rw [h.1, encS, ← row_s4]
theorem rd_byte (w : World) (v : Value) (b : UInt8) (h : v = bv b) : Rd (w.alloc (.cells #[v] 5)) (some ⟨w.heap.size, 0, none⟩) [b] := fun _ => by
  subst h
  refine ⟨_, rfl, fun j hj => ?_⟩
  simp at hj
  subst hj
  simp [Addr.add, bv]
theorem of_one (b : UInt8) (w : World) : Calls Tryd.prog 31 #[.slice (some ⟨w.heap.size, 0, none⟩) 1 1] (w.alloc (.cells #[.int .u8 (b.toNat : Int)] 5)) (GotS (w.alloc (.cells #[.int .u8 (b.toNat : Int)] 5)) (oneS b.toNat)) :=
  (of_any _ 1 1 [b] rfl (by omega) _ (rd_byte w _ b rfl)).mono fun e w' h => h.gotS rfl
theorem span_is (a b : UInt8) (w : World) : Calls Tryd.prog 36 #[.int .u8 (a.toNat : Int), .int .u8 (b.toNat : Int)] w (GotS w (spanS a.toNat b.toNat)) :=
  (span_any a.toNat b.toNat a.toNat_lt b.toNat_lt w).mono fun e w' h => h.gotS rfl
theorem union_is (s t : S4) (w : World) : Calls Tryd.prog 68 #[encS s, encS t] w (GotS w (orS s t)) :=
  (union_any s.f t.f w).mono fun e w' h => h.gotS rfl
theorem not_is (s : S4) (w : World) : Calls Tryd.prog 79 #[encS s] w (GotS w (notS s)) :=
  (not_any s.f w).mono fun e w' h => h.gotS rfl
/-- A block that holds a set. -/
def HS (w : World) (b : Nat) (s : S4) : Prop := H4 w b s.f
theorem HS.new (w : World) : HS (w.alloc (.cells tab4 57)) w.heap.size nilS := by
  have := H4.new w nilW
  rw [← tab4_row] at this
  exact this.congr (s4_f nilW).symm
theorem HS.kept {w w' : World} {b : Nat} {s : S4} {row : Option Nat} (h : HS w b s) (hg : w.grownBy w' row) (hne : row ≠ some b) : HS w' b s :=
  (hg.block b (H4.lt h) (fun e => hne e.symm)).trans h
theorem HS.below {w w' : World} {b : Nat} {s : S4} (h : HS w b s) (hb : Below w.heap.size w w') : HS w' b s := H4.below h hb
theorem HS.laid {w : World} {b : Nat} {s : S4} (h : HS w b s) (t : S4) : HS (w.setRow b (row4 t.f)) b t := setRow_heap _ _ _ _ _ _ h

theorem RdAt.rowS {n0 g b : Nat} {s r : List UInt8} {l : List RN} {w : World} {z : S4} (h : RdAt n0 g s r l w) (hb : HS w b z) (cs : Array Value) : RdAt n0 g s r l (w.setRow b cs) := by
  refine h.grown (row := some b) ⟨rfl, rfl, rfl, by simp, fun k _ hk => setRow_other _ _ _ _ (fun e => hk (by rw [e]))⟩ ?_ (fun v hv => ?_)
  · intro e
    obtain ⟨v, hv, _⟩ := h.nodes
    have hb' : w.heap[b]? = some (.cells (row4 z.f) 57 (0, 0)) := hb
    rw [Option.some.inj e] at hb'
    rw [hv] at hb'
    simp at hb'
  · obtain ⟨v', hv', ho, _⟩ := h.nodes
    have e : v = v' := by
      rw [hv] at hv'
      simpa using hv'
    subst e
    rcases ho.2 with ⟨rfl, _⟩ | ⟨q, cap, cur, rfl, _, hq, _⟩
    · exact Or.inl rfl
    · right
      intro e
      have e' : q = b := by simpa [Value.ownBlock] using e
      subst e'
      have hb' : w.heap[q]? = some (.cells (row4 z.f) 57 (0, 0)) := hb
      rw [hq] at hb'
      simp at hb'
theorem grown_row' {w w' : World} {g b : Nat} (h : w.grownBy w' (some g)) (hb : w.heap.size ≤ b) (cs : Array Value) : w.grownBy (w'.setRow b cs) (some g) := by
  refine ⟨h.os, h.tape, h.output, by have := h.size; simp; omega, fun k hk hk2 => ?_⟩
  exact (setRow_other _ _ _ _ (by omega)).trans (h.block k hk hk2)

theorem stretch_any {n0 g : Nat} {s r : List UInt8} {l : List RN} {w : World} (h : RdAt n0 g s r l w) : Calls Tryd.prog 103 #[.pointer (some ⟨g, 0, none⟩)] w (Does w n0 g s l encS (strM r)) := by
  have hbase := h.base
  have hlt := h.lt
  have hz := zero4
  generalize hQ : Does w n0 g s l encS (strM r) = Q
  have HQ := Lib.hid hQ
  clear hQ
  have h0 := HS.new w
  have b0 := bl_alloc (Below.refl w.heap.size w) (.cells tab4 57)
  have i0 := h.below b0
  have H0 := Lib.hid h0
  have B0 := Lib.hid b0
  have I0 := Lib.hid i0
  clear h h0 b0 i0
  go_enter Tryd.func103, Tryd.ntmps103
  go_wp2_with fail
  clear hz
  refine (one_any sgC I0.out).mono ?_
  intro e w1 hd
  cases hd1 : oneM sgC r with
  | out => exact absurd hd1 (oneM_out _ r)
  | bad r' =>
    rw [hd1] at hd
    obtain ⟨rfl, hb2⟩ := hd
    have D1 := Lib.hid hd1
    have HB2 := Lib.hid hb2
    clear hb2 hd1
    go_wp2_with fail
    refine ⟨rfl, post_is HQ ?_⟩
    rw [strM, D1.out]
    exact ⟨rfl, (B0.out.mono (by omega)).trans HB2.out⟩
  | ok a r1 =>
    rw [hd1] at hd
    obtain ⟨rfl, h1, g1⟩ := hd
    have D1 := Lib.hid hd1
    have H1 := Lib.hid (H0.out.kept g1 (by simp; omega))
    have G1 := Lib.hid ((grown_of_below B0.out (some g)).trans g1)
    have I1 := Lib.hid h1
    have HSK := Lib.hid (skips_any (l := l) (b := 45) (by decide) h1)
    clear h1 g1 hd1 I0 H0 B0
    unfold encU8
    by_cases hx : look r1 = 45
    · have HX := Lib.hid hx
      obtain ⟨y, rfl⟩ := look_ne hx (by decide)
      have hsk := HSK.out
      rw [if_pos hx, decide_eq_true hx, List.tail_cons] at hsk
      have HSK2 := Lib.hid hsk
      clear hx hsk HSK
      go_wp2_with fail
      refine HSK2.out.mono ?_
      rintro e w2 ⟨rfl, h2, g2⟩
      have H2 := Lib.hid (H1.out.kept g2 (by simp; omega))
      have G2 := Lib.hid (G1.out.trans g2)
      obtain ⟨k, HK, HL2, hk, c0, c1, f1, HX2⟩ := h2.cells
      have I2 := Lib.hid h2
      clear h2 g2 H1 G1 HSK2 HL2 HX2
      go_wp2_with fail
      refine (one_any sgC I2.out).mono ?_
      intro e w3 hd
      cases hd2 : oneM sgC y with
      | out => exact absurd hd2 (oneM_out _ y)
      | bad r' =>
        rw [hd2] at hd
        obtain ⟨rfl, hb2⟩ := hd
        have D2 := Lib.hid hd2
        have HB2 := Lib.hid hb2
        clear hb2 hd2
        go_wp2_with fail
        refine ⟨rfl, post_is HQ ?_⟩
        rw [strM, D1.out]
        simp only []
        rw [if_pos HX.out, List.tail_cons, D2.out]
        exact ⟨rfl, (below_of_grown G2.out hbase hlt).trans HB2.out⟩
      | ok b r2 =>
        rw [hd2] at hd
        obtain ⟨rfl, h3, g3⟩ := hd
        have D2 := Lib.hid hd2
        have H3 := Lib.hid (H2.out.kept g3 (by simp; omega))
        have G3 := Lib.hid (G2.out.trans g3)
        have I3 := Lib.hid h3
        clear h3 g3 hd2 H2 G2 I2
        unfold encU8
        by_cases hba : b < a
        · have hlt3 : decide ((b.toNat : Int) < (a.toNat : Int)) = true := by
            have := UInt8.lt_iff_toNat_lt.1 hba
            simp
            omega
          have HBA := Lib.hid hba
          clear hba
          go_wp2_with fail
          refine ⟨rfl, post_is HQ ?_⟩
          rw [strM, D1.out]
          simp only []
          rw [if_pos HX.out, List.tail_cons, D2.out]
          simp only []
          rw [if_pos HBA.out]
          exact ⟨by rw [← HK.out], below_of_grown G3.out hbase hlt⟩
        · have hlt3 : decide ((b.toNat : Int) < (a.toNat : Int)) = false := by
            have h5 : ¬ b.toNat < a.toNat := fun e => hba (UInt8.lt_iff_toNat_lt.2 e)
            simp
            omega
          have HBA := Lib.hid hba
          clear hba
          go_wp2_with fail
          refine (span_is a b _).mono ?_
          rintro e w4 ⟨rfl, hb4⟩
          have H4 := Lib.hid (H3.out.below hb4)
          have G4 := Lib.hid (G3.out.trans (grown_of_below hb4 (some g)))
          have I4 := Lib.hid (I3.out.below hb4)
          have L4 : w.heap.size ≤ w4.heap.size := G4.out.size
          clear H3 G3 I3 hb4
          unfold encS
          go_wp2_with (refine wpList_store_row rfl 57 _ _ rfl w.heap.size _ rfl rfl 57 _ H4.out (by rw [size4, row4_size]) (by rw [row4_size, row4_size]) (row4_one _) ?_)
          refine bodyPost_ret (v := encS (spanS a.toNat b.toNat)) (results_cell_row rfl _ _ w.heap.size 57 _ (0, 0) _ rfl (setRow_heap _ _ _ _ _ _ H4.out) Tryd.underlying57 rfl (by rw [size4, row4_size])) rfl (post_is HQ ?_)
          rw [strM, D1.out]
          simp only []
          rw [if_pos HX.out, List.tail_cons, D2.out]
          simp only []
          rw [if_neg HBA.out]
          exact ⟨rfl, I4.out.rowS H4.out _, grown_row' G4.out (by omega) _⟩
    · have HX := Lib.hid hx
      have hsk := HSK.out
      rw [if_neg hx, decide_eq_false hx] at hsk
      have HSK2 := Lib.hid hsk
      clear hx hsk HSK
      go_wp2_with fail
      refine HSK2.out.mono ?_
      rintro e w2 ⟨rfl, h2, g2⟩
      have H2 := Lib.hid (H1.out.kept g2 (by simp; omega))
      have G2 := Lib.hid (G1.out.trans g2)
      have I2 := Lib.hid h2
      clear h2 g2 H1 G1 HSK2
      go_wp2_with fail
      refine (of_one a _).mono ?_
      rintro e w4 ⟨rfl, hb4⟩
      have B4 := bl_trans (bl_alloc (Below.refl w2.heap.size w2) (.cells #[.int .u8 (a.toNat : Int)] 5)) hb4
      have H4 := Lib.hid (H2.out.below B4)
      have G4 := Lib.hid (G2.out.trans (grown_of_below B4 (some g)))
      have I4 := Lib.hid (I2.out.below B4)
      have L4 : w.heap.size ≤ w4.heap.size := G4.out.size
      clear H2 G2 I2 hb4 B4
      unfold encS
      go_wp2_with (refine wpList_store_row rfl 57 _ _ rfl w.heap.size _ rfl rfl 57 _ H4.out (by rw [size4, row4_size]) (by rw [row4_size, row4_size]) (row4_one _) ?_)
      refine bodyPost_ret (v := encS (oneS a.toNat)) (results_cell_row rfl _ _ w.heap.size 57 _ (0, 0) _ rfl (setRow_heap _ _ _ _ _ _ H4.out) Tryd.underlying57 rfl (by rw [size4, row4_size])) rfl (post_is HQ ?_)
      rw [strM, D1.out]
      simp only []
      rw [if_neg HX.out]
      exact ⟨rfl, I4.out.rowS H4.out _, grown_row' G4.out (by omega) _⟩

end Go.Proofs.YteedmkokbapkgaaDoor
