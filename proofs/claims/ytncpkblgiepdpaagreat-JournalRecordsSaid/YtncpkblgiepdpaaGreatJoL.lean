/- Lists of bytes held one beside the other; the chapter's example, by the program. Contracts over the translated program. No condition but what each statement names. -/
import Derived.Test.YtncpkblgiepdpaaGreatJoR
import Derived.Test.YtncpkblgiepdpaaGreatJoK
import Derived.Test.YtncpkblgiepdpaaGreatJoV
import Derived.Test.YtncpkblgiepdpaaGreatDkEq
set_option linter.unusedVariables false
set_option linter.unusedSimpArgs false
namespace Go.Proofs.YtncpkblgiepdpaaGreat
open Go.RowKit Go.Maps Go.Shelf Go.Sort

/-- A value that is a slice of slices of bytes. -/
def RowV (w : World) (v : Value) (l : List BS) : Prop := ∃ A c, v = .slice A l.length c ∧ l.length ≤ c ∧ c ≤ maxLen ∧ RdL w A l
theorem RowV.below {w w' : World} {v : Value} {l : List BS} (h : RowV w v l) (hb : Below w.heap.size w w') : RowV w' v l := by
  obtain ⟨A, c, h1, h2, h3, h4⟩ := h
  exact ⟨A, c, h1, h2, h3, h4.below hb⟩
theorem RowV.of {w : World} {own : Nat → Option Role} {v : Value} {l : List BS} (h : Rows2 w own v l) : RowV w v l := by
  obtain ⟨A, c, h1, h2, h3, h4, _⟩ := h
  refine ⟨A, c, h1, h2, h3, fun h0 => ?_⟩
  obtain ⟨ad, e, _, hc⟩ := h4 h0
  refine ⟨ad, e, fun j hj => ?_⟩
  obtain ⟨u, hu, A1, c1, e1, _, _, g4, _⟩ := hc j hj
  have eg : l.getD j [] = l[j] := by simp [List.getD, hj]
  simp only [eg] at e1 g4
  exact ⟨A1, c1, by rw [hu, e1], g4.1⟩
set_option maxHeartbeats 1000000 in
theorem sameT_any (A A' : Option Addr) (n c c' : Nat) (l : List BS) (w : World) (hl : l.length = n) (hr : RdL w A l) (hr' : RdL w A' l) (hn : n ≤ 8000000000000) :
    Calls Tryz.prog 12 #[.slice A n c, .slice A' n c'] w (GotYes w true) := by
  have HL := Lib.hid hl
  clear hl
  go_enter Tryz.func12, Tryz.ntmps12
  go_wp2_with fail
  go_loopw [5] (fun i wr => ∃ k : Nat, k ≤ n ∧ i = .int .i64 (k : Int) ∧ Below w.heap.size w wr) (fun i _ => n - (intOf i).toNat)
  case atStart => exact ⟨0, Nat.zero_le _, rfl, Below.refl _ _⟩
  case round =>
    obtain ⟨k, hk, rfl, hbl⟩ := hrel
    by_cases hlt : k < n
    · have h1 : k < l.length := by have := HL.out; omega
      obtain ⟨ad, Ak, ck, rfl, hc, hk1⟩ := (hr.below hbl).at h1
      obtain ⟨ad', Ak', ck', rfl, hc', hk1'⟩ := (hr'.below hbl).at h1
      have t1 := string_of wr Ak l[k].length ck l[k] rfl hk1
      have t2 := string_of wr Ak' l[k].length ck' l[k] rfl hk1'
      have t3 := string_of wr.drew Ak l[k].length ck l[k] rfl (hk1.below (Below.refl _ _).drew)
      have t4 := string_of wr.drew Ak' l[k].length ck' l[k] rfl (hk1'.below (Below.refl _ _).drew)
      clear hr hr' hk1 hk1'
      go_wp2_with fail
      go_region
      go_wp2_with fail
      exact ⟨⟨k + 1, by omega, by go_num, bl_drewN hbl _⟩, by simp [intOf]; omega⟩
    · go_wp2
      go_ret
      exact ⟨rfl, hbl⟩
set_option maxHeartbeats 1000000 in
theorem hasT_any (A A' : Option Addr) (n c c' : Nat) (l : List BS) (w : World) (hl : l.length = n) (hr : RdL w A l) (hr' : RdN w A' l) (hn : n ≤ 1000000) :
    Calls Tryz.prog 35 #[.slice A n c, .slice A' n c'] w (GotYes w true) := by
  have HL := Lib.hid hl
  clear hl
  go_enter Tryz.func35, Tryz.ntmps35
  go_wp2_with fail
  go_loopw [5] (fun i wr => ∃ k : Nat, k ≤ n ∧ i = .int .i64 (k : Int) ∧ Below w.heap.size w wr) (fun i _ => n - (intOf i).toNat)
  case atStart => exact ⟨0, Nat.zero_le _, rfl, Below.refl _ _⟩
  case round =>
    obtain ⟨k, hk, rfl, hbl⟩ := hrel
    by_cases hlt : k < n
    · have h1 : k < l.length := by have := HL.out; omega
      obtain ⟨ad, Ak, ck, rfl, hc, hk1⟩ := (hr.below hbl).at h1
      obtain ⟨ad', rfl, hc'⟩ := (hr'.below hbl).cell h1
      have t1 := string_of wr Ak l[k].length ck l[k] rfl hk1
      have t3 := string_of wr.drew Ak l[k].length ck l[k] rfl (hk1.below (Below.refl _ _).drew)
      clear hr hr' hk1
      go_wp2_with fail
      go_region
      go_wp2_with fail
      exact ⟨⟨k + 1, by omega, by go_num, bl_drewN hbl _⟩, by simp [intOf]; omega⟩
    · go_wp2
      go_ret
      exact ⟨rfl, hbl⟩

/-- A journal on its disk, seen from a law's beginning. -/
structure LiesJ (w w' : World) (own : Nat → Option Role) (J d : Nat) (s : DS) (cnt kp : Nat) : Prop where
  disk : DiskIn w' own d s
  jrn : JIn w' own J d cnt kp false
  far : ∀ b, jo own J b ≠ none → w.heap.size ≤ b
  below : Below w.heap.size w w'
section
variable {w wr : World} {own : Nat → Option Role} {d J cnt kp : Nat} {s : DS} {k m r : Nat}
theorem LiesJ.on {w2 : World} (h : LiesJ w wr own J d s cnt kp) (hb : Below wr.heap.size wr w2) : LiesJ w w2 own J d s cnt kp :=
  ⟨h.disk.below hb, h.jrn.kept (Kept.of_below hb own), h.far, bl_trans h.below hb⟩
theorem LiesJ.next {w2 : World} {own2 : Nat → Option Role} {s2 : DS} {c2 k2 : Nat} (h : LiesJ w wr own J d s cnt kp) (hD : DiskIn w2 own2 d s2) (hK : Kept wr w2 (jo own J) (jo own2 J)) (hJ : JIn w2 own2 J d c2 k2 false) : LiesJ w w2 own2 J d s2 c2 k2 :=
  ⟨hD, hJ, fun b hb => by
    rcases hK.more b hb with h1 | h1
    · exact h.far b h1
    · exact Nat.le_trans h.below.size h1, h.below.trans (hK.below h.below.size h.far)⟩
theorem LiesJ.lies (h : LiesJ w wr own J d s cnt kp) : Lies w wr own d s := ⟨h.disk, fun b hb => h.far b (by
  by_cases e : b = J
  · subst e; exact jo_at _ _
  · unfold jo; rw [setR_other _ _ e]; exact hb), h.below⟩
theorem lies_jappend (hL : LiesJ w wr own J d s cnt kp) (hR : Run s k m r) (hk : k ≤ 1000) (hm : m ≤ 1000000) (hr16 : r ≤ 16777216) (A : Option Addr) (n c : Nat) (b : BS) (hl : b.length = n) (hr : Rd wr A b) (hn : n ≤ 262144) (hc : cnt < 9007199254740991) (z : Int) (hz : (((dE s ⟨0, jn, [], recE (cnt + 1) b⟩).2 : Nat) : Int) = z) :
    Calls Tryz.prog 45 #[.pointer (some ⟨J, 0, none⟩), .slice A n c] wr (fun e w' => e = .returned (.int .i64 z) ∧ ∃ own2, LiesJ w w' own2 J d (dE s ⟨0, jn, [], recE (cnt + 1) b⟩).1 (if (dE s ⟨0, jn, [], recE (cnt + 1) b⟩).2 = 0 then cnt + 1 else cnt) kp ∧ Kept wr w' (jo own J) (jo own2 J)) := by
  subst hz
  refine (jappend_any hL.jrn hL.disk hR hk hm hr16 A n c b hl hr hn hc).mono ?_
  rintro e w' ⟨he, own2, hD, hK, hJ⟩
  exact ⟨he, own2, hL.next hD hK hJ, hK⟩
theorem lies_jsync (hL : LiesJ w wr own J d s cnt kp) (hR : Run s k m r) (hk : k ≤ 1000) (hm : m ≤ 1000000) (hz : (dE s ⟨1, jn, [], []⟩).2 = 0) :
    Calls Tryz.prog 47 #[.pointer (some ⟨J, 0, none⟩)] wr (fun e w' => e = .returned (.int .i64 0) ∧ ∃ own2, LiesJ w w' own2 J d (dE s ⟨1, jn, [], []⟩).1 cnt cnt ∧ Kept wr w' (jo own J) (jo own2 J)) := by
  refine (jsync_any hL.jrn hL.disk hR hk hm hz).mono ?_
  rintro e w' ⟨he, own2, hD, hK, hJ⟩
  exact ⟨he, own2, hL.next hD hK hJ, hK⟩
/-- Open, where there is no error. -/
theorem lies_open (hL : Lies w wr own d s) (hR : Run s k m r) (hk : k ≤ 900) (hm : m ≤ 1000000) (hr : r ≤ 16777216) (l : List BS) (h0 : (opnE s).2 = (l, 0)) :
    Calls Tryz.prog 20 #[.pointer (some ⟨d, 0, none⟩)] wr (fun e w' => ∃ J v own2, e = .returned (.tuple #[.pointer (some ⟨J, 0, none⟩), v, .int .i64 0]) ∧ LiesJ w w' own2 J d (opnE s).1 l.length l.length ∧ Kept wr w' own own2 ∧ Rows2 w' own2 v l ∧ wr.heap.size ≤ J) := by
  refine (open_any hL.disk hR hk hm hr).mono ?_
  rintro e w' (⟨hne, _⟩ | ⟨_, J, v, own2, he, hD, hK, hJw, hJ, hRo⟩)
  · rw [h0] at hne; exact absurd rfl hne
  · rw [h0] at hJ hRo
    have hL2 := hL.next hD hK
    refine ⟨J, v, own2, he, ⟨hD, hJ, fun b hb => ?_, hL2.below⟩, hK, hRo, hJw⟩
    rcases jo_some hb with h1 | h1
    · exact hL2.far b h1
    · subst h1; exact Nat.le_trans hL.below.size hJw
end

/-- Rows of bytes, and true. -/
def GotRow (w : World) (l : List BS) (e : Ending) (w' : World) : Prop := ∃ v, e = .returned (.tuple #[v, .bool true]) ∧ RowV w' v l ∧ Below w.heap.size w w'
set_option maxHeartbeats 4000000 in
set_option maxRecDepth 40000 in
theorem chapter_any (w : World) (Ak : Option Addr) (mk ck : Nat) (keep : List Int) (hkl : keep.length = mk) (hkr : RdI w Ak keep) (h64 : In64 keep) (l : List BS) (hexp : (opnE (bootE (fallE chS keep))).2 = (l, 0)) :
    Calls Tryz.prog 34 #[.slice Ak mk ck] w (GotRow w l) := by
  have hnew : ∀ w, _ := fun w => new_any w 1000 (by omega)
  have kc : ∀ (w : World) (C : Array Value) (n c g : Nat), g = w.heap.size → (convert 22 22 (.slice (some ⟨g, 0, none⟩) n c)).run Tryz.prog (w.alloc (.cells C 5)) = .ok (.slice (some ⟨g, 0, none⟩) n c) (w.alloc (.cells C 5 (C.size, C.size + 1))) := fun w C n c g hg => by
    subst hg
    exact Lib.run_convert_bytes_const w 22 5 C n c Tryz.underlying22 Tryz.underlying5
  have r0 := run_new 1000
  have rA : Run chA 4 0 1000 := run_opn r0
  have rB : Run chB 5 (0 + (recE 1 [97]).length) 1000 := run_d rA (x := ⟨0, jn, [], recE 1 [97]⟩) ⟨by show 7 ≤ 40; omega, by show 0 ≤ 40; omega⟩
  have rC : Run chC 6 (0 + (recE 1 [97]).length + (recE 2 []).length) 1000 := run_d rB (x := ⟨0, jn, [], recE 2 []⟩) ⟨by show 7 ≤ 40; omega, by show 0 ≤ 40; omega⟩
  have rD : Run chD 7 (0 + (recE 1 [97]).length + (recE 2 []).length) 1000 := run_d rC (x := ⟨1, jn, [], []⟩) ⟨by show 7 ≤ 40; omega, by show 0 ≤ 40; omega⟩
  have rS : Run chS 8 (0 + (recE 1 [97]).length + (recE 2 []).length + (recE 3 [98]).length) 1000 := run_d rD (x := ⟨0, jn, [], recE 3 [98]⟩) ⟨by show 7 ≤ 40; omega, by show 0 ≤ 40; omega⟩
  rw [rec_len] at rB rC rD rS
  rw [rec_len] at rC rD rS
  rw [rec_len] at rS
  simp only [List.length_singleton, List.length_nil] at rB rC rD rS
  go_enter Tryz.func34, Tryz.ntmps34
  go_wp2_with fail
  refine (hnew w).mono ?_
  rintro e w1 ⟨own0, d, rfl, hd0, hf0, hb0⟩
  clear hnew
  have hL0 : Lies w w1 own0 d (newE 1000) := ⟨hd0, hf0, hb0⟩
  clear hd0 hf0 hb0
  have hop := lies_open hL0 r0 (by omega) (by omega) (by omega) [] ch_a
  go_wp2_with fail
  refine hop.mono ?_
  rintro e w2 ⟨J, v2, own2, rfl, hL2, _, hro2, _⟩
  obtain ⟨A2, c2, rfl, _⟩ := hro2
  have hLA : LiesJ w w2 own2 J d chA 0 0 := hL2
  clear hop hL0 hL2
  have hapA := lies_jappend (hLA.on ((Below.refl _ w2).alloc (Nat.le_refl _) (.cells #[.int .u8 97] 5 (1, 2)))) rA (by omega) (by omega) (by omega) (some ⟨w2.heap.size, 0, none⟩) 1 1 [97] rfl (Rd.litF w2 [97] (1, 2)) (by omega) (by omega) 0 (by rw [ch_b]; rfl)
  rw [ch_b] at hapA
  clear hLA
  go_wp2_with fail
  refine hapA.mono ?_
  rintro e w3 ⟨rfl, own3, hL3, _⟩
  have hLB : LiesJ w w3 own3 J d chB 1 0 := hL3
  have hapB := lies_jappend hLB rB (by omega) (by omega) (by omega) none 0 0 [] rfl (Rd.nil _ _) (by omega) (by omega) 0 (by rw [ch_c]; rfl)
  rw [ch_c] at hapB
  clear hLB hL3 hapA
  go_wp2_with fail
  refine hapB.mono ?_
  rintro e w4 ⟨rfl, own4, hL4, _⟩
  have hLC : LiesJ w w4 own4 J d chC 2 0 := hL4
  have hsyC := lies_jsync hLC rC (by omega) (by omega) ch_d
  clear hLC hL4 hapB
  go_wp2_with fail
  refine hsyC.mono ?_
  rintro e w5 ⟨rfl, own5, hL5, _⟩
  have hLD : LiesJ w w5 own5 J d chD 2 2 := hL5
  have hapD := lies_jappend (hLD.on ((Below.refl _ w5).alloc (Nat.le_refl _) (.cells #[.int .u8 98] 5 (1, 2)))) rD (by omega) (by omega) (by omega) (some ⟨w5.heap.size, 0, none⟩) 1 1 [98] rfl (Rd.litF w5 [98] (1, 2)) (by omega) (by omega) 0 (by rw [ch_s]; rfl)
  rw [ch_s] at hapD
  clear hLD hL5 hsyC
  go_wp2_with fail
  refine hapD.mono ?_
  rintro e w6 ⟨rfl, own6, hL6, _⟩
  have hLS : LiesJ w w6 own6 J d chS 3 2 := hL6
  have hle := len_any hLS.jrn
  have hke := kept_any hLS.jrn
  clear hL6 hapD
  go_wp2_with (first | (go_at_call 56; refine hle.mono ?_; rintro e w6 ⟨rfl, rfl⟩) | (go_at_call 57; refine hke.mono ?_; rintro e w6 ⟨rfl, rfl⟩) | fail)
  have hLs := hLS.lies
  have hcr := lies_crash hLs rS.live Ak mk ck keep hkl hkr h64 (fallOk_of rS.inv rS.short (rS.bnd.mono (by omega) (by omega)) (by rw [rS.room]; omega) keep)
  have rF := run_fall rS keep
  clear hle hke
  refine hcr.mono ?_
  rintro e w7 ⟨rfl, own7, hL7, _⟩
  clear hcr
  go_wp2_with fail
  refine (lies_boot hL7).mono ?_
  rintro e w8 ⟨rfl, own8, hL8, _⟩
  have hop := lies_open hL8 rF (by omega) (by omega) (by omega) l hexp
  clear hL7
  go_wp2_with fail
  refine hop.mono ?_
  rintro e w9 ⟨J9, v9, own9, rfl, hL9, _, hro9, _⟩
  have hrv := RowV.of hro9
  obtain ⟨A9, c9, rfl, _, _, _⟩ := hrv
  have HRV := Lib.hid (RowV.of hro9)
  clear hop hro9
  go_wp2_with fail
  go_ret2
  exact ⟨_, rfl, HRV.out, hL9.below⟩
theorem litI (w : World) (l : List Int) (t : TypeId) : RdI (w.alloc (.cells (l.map fun z => Value.int .i64 z).toArray t)) (some ⟨w.heap.size, 0, none⟩) l := fun h => by
  refine ⟨_, rfl, fun j hj => ?_⟩
  rw [add_at]
  have h1 := heap_alloc_new w (.cells (l.map fun z => Value.int .i64 z).toArray t)
  unfold World.cell?
  simp only [h1]
  simp [hj]
theorem litN (w : World) (l : List BS) (t : TypeId) : RdN (w.alloc (.cells (l.map fun b => Value.string ⟨b.toArray⟩).toArray t)) (some ⟨w.heap.size, 0, none⟩) l := fun h => by
  refine ⟨_, rfl, fun j hj => ?_⟩
  rw [add_at]
  have h1 := heap_alloc_new w (.cells (l.map fun b => Value.string ⟨b.toArray⟩).toArray t)
  unfold World.cell?
  simp only [h1]
  simp [hj]
set_option maxHeartbeats 4000000 in
set_option maxRecDepth 40000 in
theorem jawake_any (w : World) : Calls Tryz.prog 13 #[] w (GotYes w true) := by
  go_enter Tryz.func13, Tryz.ntmps13
  go_wp2_with fail
  refine (chapter_any w none 0 0 [] rfl (fun h => by simp at h) (fun x h => by simp at h) _ ch_1).mono ?_
  rintro e w1 ⟨v1, rfl, hr1, hb1⟩
  obtain ⟨A1, c1, rfl, _, _, hr1'⟩ := hr1
  go_wp2_with fail
  refine (chapter_any _ (some ⟨w1.heap.size, 0, none⟩) 2 2 [0, 20] rfl (litI w1 [0, 20] 3) (fun x h => by simp at h; omega) _ ch_2).mono ?_
  rintro e w2 ⟨v2, rfl, hr2, hb2⟩
  obtain ⟨A2, c2, rfl, _, _, hr2'⟩ := hr2
  go_wp2_with fail
  refine (chapter_any _ (some ⟨w2.heap.size, 0, none⟩) 2 2 [0, 21] rfl (litI w2 [0, 21] 3) (fun x h => by simp at h; omega) _ ch_3).mono ?_
  rintro e w3 ⟨v3, rfl, hr3, hb3⟩
  obtain ⟨A3, c3, rfl, _, _, hr3'⟩ := hr3
  go_wp2_with fail
  have hB1 := bl_alloc (Below.refl w1.heap.size w1) (.cells (([0, 20] : List Int).map fun z => Value.int .i64 z).toArray 3)
  have hB12 := bl_trans hB1 hb2
  have hB2 := bl_alloc (Below.refl w2.heap.size w2) (.cells (([0, 21] : List Int).map fun z => Value.int .i64 z).toArray 3)
  have hB23 := bl_trans hB2 hb3
  have hB3 := bl_alloc (Below.refl w3.heap.size w3) (.cells (([[97], []] : List BS).map fun b => Value.string ⟨b.toArray⟩).toArray 9)
  have hB13 := bl_trans hB12 hB23
  have h1 := hasT_any A1 (some ⟨w3.heap.size, 0, none⟩) 2 c1 2 [[97], []] (w3.alloc (.cells (([[97], []] : List BS).map fun b => Value.string ⟨b.toArray⟩).toArray 9)) rfl (hr1'.below (bl_trans hB13 hB3)) (litN w3 [[97], []] 9) (by omega)
  refine h1.mono ?_
  rintro e w4 ⟨rfl, hb4⟩
  have hB34 := bl_trans hB3 hb4
  have hB24 := bl_trans hB23 hB34
  have hB4 := bl_alloc (Below.refl w4.heap.size w4) (.cells (([[97], []] : List BS).map fun b => Value.string ⟨b.toArray⟩).toArray 9)
  have h2 := hasT_any A2 (some ⟨w4.heap.size, 0, none⟩) 2 c2 2 [[97], []] (w4.alloc (.cells (([[97], []] : List BS).map fun b => Value.string ⟨b.toArray⟩).toArray 9)) rfl (hr2'.below (bl_trans hB24 hB4)) (litN w4 [[97], []] 9) (by omega)
  clear h1 hr1' hr2'
  go_wp2_with fail
  refine h2.mono ?_
  rintro e w5 ⟨rfl, hb5⟩
  have hB45 := bl_trans hB4 hb5
  have hB35 := bl_trans hB34 hB45
  have hB5 := bl_alloc (Below.refl w5.heap.size w5) (.cells (([[97], [], [98]] : List BS).map fun b => Value.string ⟨b.toArray⟩).toArray 9)
  have h3 := hasT_any A3 (some ⟨w5.heap.size, 0, none⟩) 3 c3 3 [[97], [], [98]] (w5.alloc (.cells (([[97], [], [98]] : List BS).map fun b => Value.string ⟨b.toArray⟩).toArray 9)) rfl (hr3'.below (bl_trans hB35 hB5)) (litN w5 [[97], [], [98]] 9) (by omega)
  clear h2 hr3'
  go_wp2_with fail
  refine h3.mono ?_
  rintro e w6 ⟨rfl, hb6⟩
  go_wp2_with fail
  go_ret
  exact ⟨rfl, bl_trans hb1 (bl_trans hB13 (bl_trans hB35 (bl_trans hB5 hb6)))⟩
end Go.Proofs.YtncpkblgiepdpaaGreat
