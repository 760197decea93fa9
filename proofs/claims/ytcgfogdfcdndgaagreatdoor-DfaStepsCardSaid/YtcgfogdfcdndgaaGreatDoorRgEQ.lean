/- The reader of patterns: class. No condition. -/
import Derived.Test.YtcgfogdfcdndgaaGreatDoorRgAQ
import Derived.Deep.LoopGhost
import Derived.Deep.AppendLies
set_option linter.unusedVariables false
set_option linter.unusedSimpArgs false
namespace Go.Proofs.YtcgfogdfcdndgaaGreatDoor
open Go.RowKit

/-- What stretch answers, a set's block being kept. -/
theorem stretch_held {n0 g B C : Nat} {s r : List UInt8} {l : List RN} {w0 w : World} {x y : S4} (h : RdAt n0 g s r l w) (hB : HS w B x) (hC : HS w C y) (hbc : B ≠ g ∧ C ≠ g) (hg : w0.grownBy w (some g)) (hn : n0 ≤ g ∧ g < w0.heap.size) :
    Calls Tryz.prog 155 #[.pointer (some ⟨g, 0, none⟩)] w fun e w' =>
      (∃ r', Hid (strM r = .bad r') ∧ e = .panicked [{ v := .iface 124 (.agg #[.int .i64 ((s.length - r'.length : Nat) : Int)]), recovered := false }] ∧ Below n0 w0 w') ∨
      (∃ z r', Hid (strM r = .ok z r') ∧ e = .returned (encS z) ∧ RdAt n0 g s r' l w' ∧ HS w' B x ∧ HS w' C y ∧ w0.grownBy w' (some g)) := by
  refine (stretch_any h).mono ?_
  intro e w' hd
  cases hs : strM r with
  | out => exact absurd hs (strM_out r)
  | bad r' =>
    rw [hs] at hd
    exact Or.inl ⟨r', rfl, hd.1, (below_of_grown hg hn.1 hn.2).trans hd.2⟩
  | ok z r' =>
    rw [hs] at hd
    obtain ⟨rfl, h1, g1⟩ := hd
    exact Or.inr ⟨z, r', rfl, rfl, h1, hB.kept g1 (by simp; omega), hC.kept g1 (by simp; omega), hg.trans g1⟩

set_option maxRecDepth 20000 in
set_option maxHeartbeats 1000000 in
theorem class_any {n0 g : Nat} {s r : List UInt8} {l : List RN} {w : World} (h : RdAt n0 g s r l w) : Calls Tryz.prog 150 #[.pointer (some ⟨g, 0, none⟩)] w (Does w n0 g s l encS (clsM r)) := by
  have hbase := h.base
  have hlt := h.lt
  have hz := zero4
  generalize hQ : Does w n0 g s l encS (clsM r) = Q
  have HQ := Lib.hid hQ
  clear hQ
  have h0 := HS.new w
  have b0 := bl_alloc (Below.refl w.heap.size w) (.cells tab4 51)
  have i0 := h.below b0
  obtain ⟨not, hnot⟩ : ∃ b : Bool, decide (look r = 94) = b := ⟨_, rfl⟩
  obtain ⟨r0, hr0⟩ : ∃ x, (if look r = 94 then r.tail else r) = x := ⟨_, rfl⟩
  have hsk := skips_any (l := l) (b := 94) (by decide) i0
  rw [hnot, hr0] at hsk
  have HSK := Lib.hid hsk
  have H0 := Lib.hid h0
  have B0 := Lib.hid b0
  have HN := Lib.hid hnot
  have HR := Lib.hid hr0
  clear h h0 b0 i0 hsk hnot hr0
  go_enter Tryz.func150, Tryz.ntmps150
  go_wp2_with fail
  refine HSK.out.mono ?_
  rintro e w1 ⟨rfl, i1, g1⟩
  have h1 := H0.out.kept g1 (by simp; omega)
  have G1 := Lib.hid ((grown_of_below B0.out (some g)).trans g1)
  have H1 := Lib.hid h1
  have I1 := Lib.hid i1
  clear g1 h1 i1 H0 B0 HSK
  go_wp2_with fail
  refine (stretch_held I1.out H1.out H1.out ⟨by omega, by omega⟩ G1.out ⟨hbase, hlt⟩).mono ?_
  rintro e w2 (⟨r', HZ, rfl, hb⟩ | ⟨z, r1, HZ, rfl, i2, h2, _, g2⟩)
  · have HB := Lib.hid hb
    clear hb
    go_wp2_with fail
    refine ⟨rfl, post_is HQ ?_⟩
    rw [clsM, HR.out, HZ.out]
    exact ⟨rfl, HB.out⟩
  have hC := HS.new w2
  have bC := bl_alloc (Below.refl w2.heap.size w2) (.cells tab4 51)
  have i3 := i2.below bC
  have h3 := h2.below bC
  have g3 := g2.trans (grown_of_below bC (some g))
  have lC : w.heap.size < w2.heap.size := by have := H4.lt h2; omega
  have i4 := i3.rowS hC (row4 z.f)
  have h4 : HS ((w2.alloc (.cells tab4 51)).setRow w2.heap.size (row4 z.f)) w.heap.size nilS := H4.row h3 (by omega) _
  have c4 := hC.laid z
  have g4 := grown_row' g3 (b := w2.heap.size) (by omega) (row4 z.f)
  have HC := Lib.hid hC
  have I4 := Lib.hid i4
  have H4 := Lib.hid h4
  have C4 := Lib.hid c4
  have G4 := Lib.hid g4
  clear i2 h2 g2 bC i3 h3 g3 hC i4 h4 c4 g4 G1 H1 I1
  unfold encS
  go_wp2_with (refine wpList_store_row rfl 51 _ _ rfl w2.heap.size _ rfl rfl 51 _ HC.out (by rw [size4, row4_size]) (by rw [row4_size, row4_size]) (row4_one _) ?_)
  clear hz
  generalize (w2.alloc (.cells tab4 51)).setRow w2.heap.size (row4 z.f) = w4 at *
  dsimp only [Act.put]
  generalize w2.heap.size = C at *
  generalize hBb : w.heap.size = B at *
  have HBb := Lib.hid hBb
  clear hBb
  go_loopg [] (r1.length + 1) (fun k wr => ∃ y r2, Hid (r2.length < k) ∧ Hid (clsL (r1.length + 1) z r1 = clsL k y r2) ∧ RdAt n0 g s r2 l wr ∧ HS wr B nilS ∧ HS wr C y ∧ w.grownBy wr (some g))
  case atStart => exact ⟨z, r1, Nat.lt_succ_self _, rfl, I4.out, H4.out, C4.out, G4.out⟩
  case round =>
    clear I4 H4 C4 G4 HC
    obtain ⟨y, r2, HLN, HCL, i5, h5, c5, g5⟩ := hrel
    obtain ⟨f, rfl⟩ : ∃ f, gk = f + 1 := ⟨gk - 1, by have := HLN.out; omega⟩
    have hsk := skips_any (l := l) (b := 93) (by decide) i5
    have H5 := Lib.hid h5
    have C5 := Lib.hid c5
    have G5 := Lib.hid g5
    by_cases hx : look r2 = 93
    · have HX := Lib.hid hx
      rw [if_pos hx, decide_eq_true hx] at hsk
      have HSK := Lib.hid hsk
      clear i5 h5 c5 g5 hx hsk
      go_wp2_with fail
      refine HSK.out.mono ?_
      rintro e w6 ⟨rfl, i6, g6⟩
      have lC2 : C < wr.heap.size := H4.lt C5.out
      have H6 := Lib.hid (H5.out.kept g6 (by simp; omega))
      have C6 := Lib.hid (C5.out.kept g6 (by simp; omega))
      have G6 := Lib.hid (G5.out.trans g6)
      have I6 := Lib.hid i6
      clear i6 g6 H5 C5 G5 HSK
      have hcls : clsL (r1.length + 1) z r1 = .ok y r2.tail := by
        rw [HCL.out, clsL, if_pos HX.out]
      have HCC := Lib.hid hcls
      clear hcls
      cases hnt : not with
      | false =>
        have HNT := Lib.hid hnt
        clear hnt
        go_wp2_with (first
          | (refine wpList_load_row rfl 51 _ rfl C rfl 51 _ (0, 0) _ C6.out Tryz.underlying51 rfl (by rw [size4, row4_size]) ?_)
          | (refine wpList_store_row rfl 51 _ _ rfl B _ rfl rfl 51 _ H6.out (by rw [size4, row4_size]) (by rw [row4_size, row4_size]) (row4_one _) ?_))
        refine bodyPost_ret (v := encS y) (results_cell_row rfl _ _ B 51 _ (0, 0) _ rfl (setRow_heap _ _ _ _ _ _ H6.out) Tryz.underlying51 rfl (by rw [size4, row4_size])) rfl (post_is HQ ?_)
        rw [clsM, HR.out, HZ.out]
        simp only []
        rw [HCC.out]
        simp only []
        rw [if_neg (by have := HN.out; rw [HNT.out] at this; simpa using this)]
        exact ⟨rfl, I6.out.rowS H6.out _, grown_row' G6.out (by have := HBb.out; omega) _⟩
      | true =>
        have HNT := Lib.hid hnt
        clear hnt
        go_wp2_with (refine wpList_load_row rfl 51 _ rfl C rfl 51 _ (0, 0) _ C6.out Tryz.underlying51 rfl (by rw [size4, row4_size]) ?_)
        refine (not_is y _).mono ?_
        rintro e w7 ⟨rfl, hb7⟩
        have c7 := C6.out.below hb7
        have h7 := H6.out.below hb7
        have i7 := I6.out.below hb7
        have g7 := G6.out.trans (grown_of_below hb7 (some g))
        have C8 := Lib.hid (c7.laid (notS y))
        have H8 := Lib.hid (show HS (w7.setRow C (row4 (notS y).f)) B nilS from H4.row h7 (by omega) _)
        have I8 := Lib.hid (i7.rowS c7 (row4 (notS y).f))
        have G8 := Lib.hid (grown_row' g7 (b := C) (by have := HBb.out; omega) (row4 (notS y).f))
        have C7 := Lib.hid c7
        clear c7 h7 i7 g7 hb7 C6 H6 I6 G6
        unfold encS
        go_wp2_with (first
          | (refine wpList_store_row rfl 51 _ _ rfl C _ rfl rfl 51 _ C7.out (by rw [size4, row4_size]) (by rw [row4_size, row4_size]) (row4_one _) ?_)
          | (refine wpList_load_row rfl 51 _ rfl C rfl 51 _ (0, 0) _ C8.out Tryz.underlying51 rfl (by rw [size4, row4_size]) ?_)
          | (refine wpList_store_row rfl 51 _ _ rfl B _ rfl rfl 51 _ H8.out (by rw [size4, row4_size]) (by rw [row4_size, row4_size]) (row4_one _) ?_))
        refine bodyPost_ret (v := encS (notS y)) (results_cell_row rfl _ _ B 51 _ (0, 0) _ rfl (setRow_heap _ _ _ _ _ _ H8.out) Tryz.underlying51 rfl (by rw [size4, row4_size])) rfl (post_is HQ ?_)
        rw [clsM, HR.out, HZ.out]
        simp only []
        rw [HCC.out]
        simp only []
        rw [if_pos (by have := HN.out; rw [HNT.out] at this; simpa using this)]
        exact ⟨rfl, I8.out.rowS H8.out _, grown_row' G8.out (by have := HBb.out; omega) _⟩
    · have HX := Lib.hid hx
      rw [if_neg hx, decide_eq_false hx] at hsk
      have HSK := Lib.hid hsk
      clear i5 h5 c5 g5 hx hsk
      go_wp2_with fail
      refine HSK.out.mono ?_
      rintro e w6 ⟨rfl, i6, g6⟩
      have lC2 : C < wr.heap.size := H4.lt C5.out
      have h6 := H5.out.kept g6 (by simp; omega)
      have c6 := C5.out.kept g6 (by simp; omega)
      have g6' := G5.out.trans g6
      clear g6 H5 C5 G5 HSK
      have lw6 : C < w6.heap.size := H4.lt c6
      go_wp2_with fail
      refine wp_region_held_drew (S := fun _ => True) (by kernel_rfl) trivial (fun _ => ?_)
      have i6d := i6.below (bl_drewN (Below.refl w6.heap.size w6) 1)
      have h6d : HS w6.drew B nilS := H4.drew h6
      have c6d : HS w6.drew C y := H4.drew c6
      have g6d := g6'.trans (grown_of_below (bl_drewN (Below.refl w6.heap.size w6) 1) (some g))
      have I6 := Lib.hid i6d
      have H6 := Lib.hid h6d
      have C6 := Lib.hid c6d
      have G6 := Lib.hid g6d
      clear i6 h6 c6 g6' i6d h6d c6d g6d
      refine wpAnyH_take (i := 1) (v := .pointer (some ⟨g, 0, none⟩)) rfl (by kernel_rfl) (by kernel_rfl) (by kernel_rfl) (fun _ _ _ h => h) (.inl ⟨by rfl, fun _ _ => by rfl⟩) trivial ?_
      try simp only [zzA, zzB, zzC, Act.put, zzD, zzE, zzF]
      refine wpAnyH_ready (rs := [0, 2]) (by kernel_rfl) (by simp) (AllReadyH.cons rfl (fun K hK => ?_) (AllReadyH.cons rfl (fun K hK => ?_) AllReadyH.nil))
      · rw [if_pos (by rfl)]
        refine wp_load_row 51 _ rfl C rfl 51 _ (0, 0) _ C6.out Tryz.underlying51 rfl (by rw [size4, row4_size]) ?_
        refine hK.out _ _ trivial (fun _ => ?_)
        clear hK K
        try simp only [zzA, zzB, zzC, Act.put, zzD, zzE, zzF]
        refine wpAnyH_ready (rs := [2]) (by kernel_rfl) (by simp) (AllReadyH.cons rfl (fun K hK => ?_) AllReadyH.nil)
        go_simp
        go_at_call 155
        refine (stretch_held I6.out H6.out C6.out ⟨by omega, by omega⟩ G6.out ⟨hbase, by have := HBb.out; omega⟩).mono ?_
        rintro e w7 (⟨r', HZ2, rfl, hb⟩ | ⟨z2, r3, HZ2, rfl, i7, h7, c7, g7⟩)
        · have HBb2 := Lib.hid hb
          clear hb
          go_wp2_with fail
          refine ⟨rfl, post_is HQ ?_⟩
          rw [clsM, HR.out, HZ.out]
          simp only []
          rw [HCL.out, clsL, if_neg HX.out, HZ2.out]
          exact ⟨rfl, HBb2.out⟩
        have I7 := Lib.hid i7
        have H7 := Lib.hid h7
        have C7 := Lib.hid c7
        have G7 := Lib.hid g7
        clear i7 h7 c7 g7
        go_wp2_with fail
        refine hK.out _ _ trivial (fun _ => ?_)
        clear hK K
        try simp only [zzA, zzB, zzC, Act.put, zzD, zzE, zzF]
        refine wpAnyH_ready (rs := [3]) (by kernel_rfl) (by simp) (AllReadyH.cons rfl (fun K hK => ?_) AllReadyH.nil)
        go_simp
        go_at_call 156
        refine (union_is y z2 _).mono ?_
        rintro e w8 ⟨rfl, hb8⟩
        have c8 := C7.out.below hb8
        have h8 := H7.out.below hb8
        have i8 := I7.out.below hb8
        have g8 := G7.out.trans (grown_of_below hb8 (some g))
        have lw8 : C < w8.heap.size := H4.lt c8
        have C8 := Lib.hid c8
        have C9 := Lib.hid (c8.laid (orS y z2))
        have H9 := Lib.hid (show HS (w8.setRow C (row4 (orS y z2).f)) B nilS from H4.row h8 (by omega) _)
        have I9 := Lib.hid (i8.rowS c8 (row4 (orS y z2).f))
        have G9 := Lib.hid (grown_row' g8 (b := C) (by have := HBb.out; omega) (row4 (orS y z2).f))
        clear c8 h8 i8 g8 hb8 I7 H7 C7 G7
        unfold encS
        go_wp2_with fail
        refine hK.out _ _ trivial (fun _ => ?_)
        clear hK K
        try simp only [zzA, zzB, zzC, Act.put, zzD, zzE, zzF]
        refine wpAnyH_ready (rs := [4]) (by kernel_rfl) (by simp) (AllReadyH.cons rfl (fun K hK => ?_) AllReadyH.nil)
        rw [if_pos (by rfl)]
        refine wp_store_row 51 _ _ rfl C _ rfl rfl 51 _ C8.out (by rw [size4, row4_size]) (by rw [row4_size, row4_size]) (row4_one _) ?_
        refine hK.out _ _ trivial (fun _ => ?_)
        clear hK K
        refine wpAnyH_done (by kernel_rfl) ?_ _
        go_wp2_with fail
        go_roundg f
        case measure => omega
        case rel => exact ⟨orS y z2, r3, show r3.length < f by have h1 := HLN.out; have h2 := strM_len HZ2.out; omega, by unfold Hid; rw [HCL.out, clsL, if_neg HX.out, HZ2.out], I9.out, H9.out, C9.out, G9.out⟩
      · go_simp
        go_at_call 155
        refine (stretch_held I6.out H6.out C6.out ⟨by omega, by omega⟩ G6.out ⟨hbase, by have := HBb.out; omega⟩).mono ?_
        rintro e w7 (⟨r', HZ2, rfl, hb⟩ | ⟨z2, r3, HZ2, rfl, i7, h7, c7, g7⟩)
        · have HBb2 := Lib.hid hb
          clear hb
          go_wp2_with fail
          refine ⟨rfl, post_is HQ ?_⟩
          rw [clsM, HR.out, HZ.out]
          simp only []
          rw [HCL.out, clsL, if_neg HX.out, HZ2.out]
          exact ⟨rfl, HBb2.out⟩
        have I7 := Lib.hid i7
        have H7 := Lib.hid h7
        have C7 := Lib.hid c7
        have G7 := Lib.hid g7
        clear i7 h7 c7 g7
        go_wp2_with fail
        refine hK.out _ _ trivial (fun _ => ?_)
        clear hK K
        try simp only [zzA, zzB, zzC, Act.put, zzD, zzE, zzF]
        refine wpAnyH_ready (rs := [0]) (by kernel_rfl) (by simp) (AllReadyH.cons rfl (fun K hK => ?_) AllReadyH.nil)
        rw [if_pos (by rfl)]
        refine wp_load_row 51 _ rfl C rfl 51 _ (0, 0) _ C7.out Tryz.underlying51 rfl (by rw [size4, row4_size]) ?_
        refine hK.out _ _ trivial (fun _ => ?_)
        clear hK K
        try simp only [zzA, zzB, zzC, Act.put, zzD, zzE, zzF]
        refine wpAnyH_ready (rs := [3]) (by kernel_rfl) (by simp) (AllReadyH.cons rfl (fun K hK => ?_) AllReadyH.nil)
        go_simp
        go_at_call 156
        refine (union_is y z2 _).mono ?_
        rintro e w8 ⟨rfl, hb8⟩
        have c8 := C7.out.below hb8
        have h8 := H7.out.below hb8
        have i8 := I7.out.below hb8
        have g8 := G7.out.trans (grown_of_below hb8 (some g))
        have lw8 : C < w8.heap.size := H4.lt c8
        have C8 := Lib.hid c8
        have C9 := Lib.hid (c8.laid (orS y z2))
        have H9 := Lib.hid (show HS (w8.setRow C (row4 (orS y z2).f)) B nilS from H4.row h8 (by omega) _)
        have I9 := Lib.hid (i8.rowS c8 (row4 (orS y z2).f))
        have G9 := Lib.hid (grown_row' g8 (b := C) (by have := HBb.out; omega) (row4 (orS y z2).f))
        clear c8 h8 i8 g8 hb8 I7 H7 C7 G7
        unfold encS
        go_wp2_with fail
        refine hK.out _ _ trivial (fun _ => ?_)
        clear hK K
        try simp only [zzA, zzB, zzC, Act.put, zzD, zzE, zzF]
        refine wpAnyH_ready (rs := [4]) (by kernel_rfl) (by simp) (AllReadyH.cons rfl (fun K hK => ?_) AllReadyH.nil)
        rw [if_pos (by rfl)]
        refine wp_store_row 51 _ _ rfl C _ rfl rfl 51 _ C8.out (by rw [size4, row4_size]) (by rw [row4_size, row4_size]) (row4_one _) ?_
        refine hK.out _ _ trivial (fun _ => ?_)
        clear hK K
        refine wpAnyH_done (by kernel_rfl) ?_ _
        go_wp2_with fail
        go_roundg f
        case measure => omega
        case rel => exact ⟨orS y z2, r3, show r3.length < f by have h1 := HLN.out; have h2 := strM_len HZ2.out; omega, by unfold Hid; rw [HCL.out, clsL, if_neg HX.out, HZ2.out], I9.out, H9.out, C9.out, G9.out⟩

end Go.Proofs.YtcgfogdfcdndgaaGreatDoor

/- The reader of patterns: a node more. No condition. -/
set_option linter.unusedVariables false
set_option linter.unusedSimpArgs false
namespace Go.Proofs.YtcgfogdfcdndgaaGreatDoor
open Go.RowKit

def aggR (n : RN) : Value := .agg (cellsR n).toArray
theorem info_rn : (Tryz.prog.info? 147).map (fun i => (i.zero, i.size, i.bytes)) = some (some (aggR ⟨0, 0, 0, ⟨0, 0, 0, 0⟩⟩), 7, 56) := by kernel_rfl
theorem size_rn : (Tryz.prog.info? 147).map (·.size) = some 7 := by kernel_rfl
theorem built_join (k a b : Int) : Tryz.prog.built 147 [(0, Value.int .i64 k), (2, Value.int .i64 a), (3, Value.int .i64 b)] = some (cellsR ⟨k, a, b, nilS⟩).toArray := by kernel_rfl
theorem built_leaf (k : Int) (s : S4) : Tryz.prog.built 147 [(0, Value.int .i64 k), (1, encS s)] = some (cellsR ⟨k, 0, 0, s⟩).toArray := by kernel_rfl
theorem cellsN_more (l : List RN) (n : RN) : cellsN (l ++ [n]) = cellsN l ++ cellsR n := by unfold cellsN; simp
theorem grown_ad {a c : World} {o : Obj} {row : Option Nat} (k : (a.alloc o).drew.grownBy c row) : a.grownBy c row :=
  World.grownBy.trans (b := (a.alloc o).drew) ⟨rfl, rfl, rfl, by simp, fun i hi _ => Below.heap_alloc _ _ _ hi⟩ k
/-- What a call of the reader answers that makes nodes. -/
def GotM (w : World) (n0 g : Nat) (s r : List UInt8) (l : List RN) (v : Value) (e : Ending) (w' : World) : Prop := e = .returned v ∧ RdAt n0 g s r l w' ∧ Below n0 w w'

set_option maxRecDepth 20000 in
set_option maxHeartbeats 1000000 in
theorem made_any {n0 g : Nat} {s r : List UInt8} {l : List RN} {w : World} (n : RN) (h : RdAt n0 g s r l w) (hm : l.length + 2 * r.length + 1 ≤ 2060) : Calls Tryz.prog 134 #[.pointer (some ⟨g, 0, none⟩), aggR n] w
    (GotM w n0 g s r (l ++ [n]) (.int .i64 (l.length : Int))) := by
  obtain ⟨k, a, b, z0, z1, z2, z3⟩ := n
  have hlt := h.lt
  have hbase := h.base
  have hleft := h.left
  have hshort := h.short
  obtain ⟨v, hg, hv, hne⟩ := h.nodes
  have c2 : w.cell? ⟨g, 2, none⟩ = some v := by rw [cell_of_row w g _ _ _ _ hg]; rfl
  have f2 : w.frozen? ⟨g, 2, none⟩ = false := frozen_of_row w g 2 _ _ hg
  have hb1 := bl_alloc (Below.refl w.heap.size w) (.cells #[.int .i64 k, dv z0, dv z1, dv z2, dv z3, .int .i64 a, .int .i64 b] 147)
  have hnew : (w.alloc (.cells #[.int .i64 k, dv z0, dv z1, dv z2, dv z3, .int .i64 a, .int .i64 b] 147)).heap[w.heap.size]? = some (.cells #[.int .i64 k, dv z0, dv z1, dv z2, dv z3, .int .i64 a, .int .i64 b] 147 (0, 0)) := heap_alloc_new w _
  show Calls Tryz.prog 134 #[.pointer (some ⟨g, 0, none⟩), .agg #[.int .i64 k, dv z0, dv z1, dv z2, dv z3, .int .i64 a, .int .i64 b]] w _
  go_enter Tryz.func134, Tryz.ntmps134
  go_wp2_with fail
  generalize w.alloc (.cells #[.int .i64 k, dv z0, dv z1, dv z2, dv z3, .int .i64 a, .int .i64 b] 147) = w1 at *
  have hg1 : w1.heap[g]? = some (.cells #[.string ⟨s.toArray⟩, .int .i64 ((s.length - r.length : Nat) : Int), v] 143 (0, 0)) := (hb1.block g hlt).trans hg
  have hv1 : w1.ownsRow n0 147 7 v l.length (cellsN l) := World.ownsRow.kept hv (grown_of_below hb1 none) (by cases v.ownBlock <;> simp)
  have c21 : w1.cell? ⟨g, 2, none⟩ = some v := by rw [cell_of_row w1 g _ _ _ _ hg1]; rfl
  have c21a : (w1.alloc (.cells #[.int .i64 k, dv z0, dv z1, dv z2, dv z3, .int .i64 a, .int .i64 b] 147)).cell? ⟨g, 2, none⟩ = some v := (World.cell?_alloc_lt _ _ _ (World.block_lt_of_cell? w1 _ c21)).trans c21
  have f21 : w1.frozen? ⟨g, 2, none⟩ = false := frozen_of_row w1 g 2 _ _ hg1
  have c70 : w1.cell? ⟨w.heap.size, 0, none⟩ = some (.int .i64 k) := by rw [cell_of_row w1 w.heap.size _ _ _ _ hnew]; rfl
  have c71 : w1.cell? ⟨w.heap.size, 1, none⟩ = some (dv z0) := by rw [cell_of_row w1 w.heap.size _ _ _ _ hnew]; rfl
  have c72 : w1.cell? ⟨w.heap.size, 2, none⟩ = some (dv z1) := by rw [cell_of_row w1 w.heap.size _ _ _ _ hnew]; rfl
  have c73 : w1.cell? ⟨w.heap.size, 3, none⟩ = some (dv z2) := by rw [cell_of_row w1 w.heap.size _ _ _ _ hnew]; rfl
  have c74 : w1.cell? ⟨w.heap.size, 4, none⟩ = some (dv z3) := by rw [cell_of_row w1 w.heap.size _ _ _ _ hnew]; rfl
  have c75 : w1.cell? ⟨w.heap.size, 5, none⟩ = some (.int .i64 a) := by rw [cell_of_row w1 w.heap.size _ _ _ _ hnew]; rfl
  have c76 : w1.cell? ⟨w.heap.size, 6, none⟩ = some (.int .i64 b) := by rw [cell_of_row w1 w.heap.size _ _ _ _ hnew]; rfl
  have l1 : w.heap.size < w1.heap.size := (Array.getElem?_eq_some_iff.1 hnew).1
  obtain ⟨i0, hi, hz0, hz1, hz2⟩ := info_parts info_rn
  have HV := Lib.hid hv
  have HG := Lib.hid hg
  have HNEW := Lib.hid hnew
  have HLEFT := Lib.hid hleft
  have HNE := Lib.hid hne
  have HBD : Hid (some g ≠ v.ownBlock) := Lib.hid (fun e => hne e.symm)
  have HB1 := Lib.hid hb1
  have HG1 := Lib.hid hg1
  clear hv hg hnew hleft hne c2 f2 h hb1 hg1
  go_region_law ((refine step_append_lies _ (by rfl) _ _ 86 (by rfl) n0 147 i0 (aggR ⟨0, 0, 0, ⟨0, 0, 0, 0⟩⟩) 7 56 Tryz.underlying86 hi hz0 hz1 hz2 rfl (by omega) v l.length (cellsN l) (by rfl) (World.ownsRow.alloc (World.ownsRow.drew hv1) _) ⟨w1.heap.size, 0, none⟩ 1 1 (cellsR ⟨k, a, b, z0, z1, z2, z3⟩) (by rfl) (by rfl) (World.news_of_block (heap_alloc_new _ _)) (by simp [cellsR, dv, Value.oneCell']) (by omega) (by simp only [maxLen]; omega) (by omega) (by first | (simp; omega) | omega) _ rfl ?_; intro q cap w3 hown3 hgrow hat hlt3; have D3 := (hgrow.block g (by first | (simp; omega) | omega) HBD.out).trans ((Below.heap_alloc _ _ g (by first | (simp; omega) | omega)).trans HG1.out); have c6' := (cell_of_row w3 g 2 _ _ _ D3); have z6' := frozen_of_row w3 g 2 _ _ D3; have DH := Lib.hid D3; have OH := Lib.hid hown3; clear D3 hown3))
  all_goals
    have hg3 : w1.grownBy w3 v.ownBlock := grown_ad hgrow
    have G3 := Lib.hid hg3
    have hqg : q ≠ g := by
      rcases hat with e | e
      · exact fun e2 => HNE.out (by rw [e, e2])
      · have : w1.heap.size + 1 = q := by simpa using e.symm
        omega
    have D4 := heap_setCell_same w3 g 2 _ _ (.slice (some ⟨q, 0, none⟩) (l.length + 1) cap) DH.out
    have c8 : (w3.setCell ⟨g, 2, none⟩ (.slice (some ⟨q, 0, none⟩) (l.length + 1) cap)).cell? ⟨g, 2, none⟩ = some (.slice (some ⟨q, 0, none⟩) (l.length + 1) cap) := by rw [cell_of_row _ g _ _ _ _ D4]; rfl
    have D5 := Lib.hid D4
    have hw : wrap64 (((l.length + 1 : Nat) : Int) - 1) = (l.length : Int) := by rw [IntWalk.wrap64_in _ ⟨by omega, by omega⟩]; omega
    have hB3 : Below n0 w (w3.setCell ⟨g, 2, none⟩ (.slice (some ⟨q, 0, none⟩) (l.length + 1) cap)) := by
      have hb : Below n0 w1 w3 := (Below.refl n0 w1).grown hg3 (by omega) (fun k e => (World.ownsRow.lt HV.out k e).1)
      exact (HB1.out.mono (by omega)).trans (hb.grown (grown_set w3 g 2 _) (by have := hg3.size; omega) (fun k e => by cases e; exact hbase))
    have HB3 := Lib.hid hB3
    clear D4 hg3 hgrow hat hB3 c6' z6' hv1 c21 c21a c70 c71 c72 c73 c74 c75 c76 f21 hi hz0 hz1 hz2
    go_wp2_with fail
    go_ret
    refine ⟨rfl, ⟨⟨_, D5.out, ?_, ?_⟩, hbase, HLEFT.out, hshort, ?_⟩, HB3.out⟩
    · rw [cellsN_more, List.length_append]
      exact World.ownsRow.kept OH.out (grown_set w3 g 2 _) (Or.inr (by simp [Value.ownBlock]; exact hqg))
    · simp [Value.ownBlock]
      exact hqg
    · simp
      omega

end Go.Proofs.YtcgfogdfcdndgaaGreatDoor
