/- The set that is gathered of what an iterator tells: Of, Span. No condition, but that the bytes can be read. -/
import Derived.Test.YteedmkokbapkgaaDoorSetD
set_option linter.unusedVariables false
set_option linter.unusedSimpArgs false
namespace Go.Proofs.YteedmkokbapkgaaDoor
open Go.RowKit Go.Shelf
attribute [local go_sem] Oper.semAt_some

theorem h4_kept {W W' : World} {row : Option Nat} {i : Nat} {f : Nat → BitVec 64} (h : H4 W i f) (hg : W.grownBy W' row)
    (hr : ∀ r, row = some r → ∃ o : Obj, W.heap[r]? = some o ∧ o.isCells = false) : H4 W' i f := by
  have hlt : i < W.heap.size := h.lt
  unfold H4 at *
  rw [hg.block i hlt]
  · exact h
  · intro e
    obtain ⟨o, ho, hc⟩ := hr i e.symm
    rw [h] at ho
    cases ho
    cases hc

def valL (L : List (Fin 256)) : List Nat := L.map (·.1)
def setL (L : List (Fin 256)) : Nat → BitVec 64 := allW nilW (valL L)
theorem setL_snoc (L : List (Fin 256)) (x : Fin 256) : setL (L ++ [x]) = putW (setL L) x.1 := by
  unfold setL valL
  rw [List.map_append]
  exact allW_snoc _ _ _

set_option maxRecDepth 100000 in
set_option maxHeartbeats 2000000 in
theorem gathered_any (gf : Nat) (fn : Func) (hfn : Tryd.prog.funcs[gf]? = some fn) (lb : Array Value) (eg : ∀ args w, (callFunc gf args).run Tryd.prog w = .ok (.enter gf args) w) (L : List (Fin 256)) (w : World) (hs : ∀ w', Below w.heap.size w w' → Tells 3 gf lb w.heap.size L w') :
    Calls Tryd.prog 48 #[.func (.func gf) #[] lb] w (Got4 w (setL L)) := by
  refine (callsIn_wide (n := 4)).1 ?_
  refine callsIn_of_wp_marks Tryd.func48 rfl trivial ?_ rfl
  simp only [Tryd.ntmps48, List.size_toArray, List.length_cons, List.length_nil, Nat.reduceAdd, Nat.reduceSub, Array.replicate_succ, Array.replicate_zero, List.push_toArray, List.append_toArray, List.nil_append, List.cons_append]
  have hz := zero4
  rw [tab4_row] at hz
  gi_wp2
  clear hz
  have hA := (H4.new w nilW).alloc (.cells (row4 nilW) 57)
  have hC := H4.new1 w (.cells (row4 nilW) 57) nilW
  have hL : Below w.heap.size w ((w.alloc (.cells (row4 nilW) 57)).alloc (.cells (row4 nilW) 57)) := bl_alloc (bl_alloc (Below.refl _ _) _) _
  have hsz : ((w.alloc (.cells (row4 nilW) 57)).alloc (.cells (row4 nilW) 57)).heap.size = w.heap.size + 2 := by simp
  generalize (w.alloc (.cells (row4 nilW) 57)).alloc (.cells (row4 nilW) 57) = W0 at *
  refine wpIn_rangeFunc_ownF rfl (by omega) (gf := gf) (lb := lb) rfl trivial eg
    (hs W0 hL) belowK_t (belowK_b (by omega)) (Below.refl _ _) (fun _ => rfl)
    (fun pre W => (H4 W w.heap.size nilW ∧ H4 W (w.heap.size + 1) (setL pre)) ∧ Below w.heap.size w W)
    (fun _ _ _ => False)
    (OwnFrom.and (Own.from (fun s A B row hs hg hr => ⟨h4_kept hs.1 hg hr, h4_kept hs.2 hg hr⟩) _) (ownFrom_below (Nat.le_refl _) (by omega)))
    (fun _ _ _ _ _ hs _ _ => hs)
    ⟨⟨hA, hC⟩, hL⟩
    (fun x => { tmps := #[.func (.func gf) #[] lb, undef, .pointer (some ⟨w.heap.size, 0, none⟩), .pointer (some ⟨w.heap.size + 1, 0, none⟩), .int .u8 (x.1 : Int), .func (.func gf) #[] lb, .int .u8 (x.1 : Int), undef, undef, undef, undef, undef, undef, undef, undef, undef, undef], defers := [] }) ?assign ?body ?done ?stop
  case assign =>
    intro l x W K hK
    unfold encB
    gi_wp2
    exact hK
  case body =>
    rintro l pre x W ⟨⟨h1, h2⟩, hB⟩ _
    have hx : x.1 < 256 := x.2
    generalize hc : x.1 = c at hx ⊢
    obtain ⟨q, hq⟩ : ∃ q, c / 64 = q := ⟨_, rfl⟩
    obtain ⟨r, hr⟩ : ∃ r, c % 64 = r := ⟨_, rfl⟩
    have hq4 : q < 4 := by omega
    have hr4 : r < 64 := by omega
    have eq1 : (c : Int) / 64 = (q : Int) := by omega
    have er1 : (c : Int) % 64 = (r : Int) := by omega
    have hput := put_at (setL pre) c q r hq hr
    have hset := setL_snoc pre x
    rw [hc] at hset
    have hb := bit_at r
    obtain ⟨m, hm⟩ : ∃ m, 1#64 <<< r = m := ⟨_, rfl⟩
    have ho := or64 (setL pre q) m
    have hc1 := h2.cell hq4
    have hf1 := h2.free q
    obtain ⟨g, hg⟩ : ∃ g, setL pre q = g := ⟨_, rfl⟩
    obtain ⟨y, hy⟩ : ∃ y, g ||| m = y := ⟨_, rfl⟩
    rw [hm] at hb hput
    rw [hg] at ho hput hc1
    rw [hy] at ho hput
    have H1 := Lib.hid h1
    have H2 := Lib.hid h2
    have HP := Lib.hid hput
    have HS := Lib.hid hset
    clear hm hy hg hput hset h1 h2 hq hr hc
    gi_wp2
    refine ⟨KeepsOthers.setCell _ _ _, (Below.refl w.heap.size W).setCell (p := ⟨w.heap.size + 1, q, none⟩) (by dsimp only; omega) _, ⟨H1.out.other (by dsimp only; omega) _, ?_⟩, hB.setCell (p := ⟨w.heap.size + 1, q, none⟩) (by dsimp only; omega) _⟩
    rw [HS.out]
    exact H2.out.set q y (fun j _ => HP.out j)
  case done =>
    rintro D xs W hD rfl ⟨⟨h1, h2⟩, hB⟩ hK
    have HK := Lib.hid hK
    have H1 := Lib.hid h1
    have H2 := Lib.hid h2
    clear hK h1 h2
    gi_wp2_with (first
      | (refine wpListIn_load_row rfl 57 _ rfl (w.heap.size + 1) rfl _ _ (0, 0) _ H2.out Tryd.underlying57 rfl (by rw [size4, row4_size]) ?_)
      | (refine wpListIn_store_row rfl 57 _ _ rfl w.heap.size _ rfl rfl _ _ H1.out (by rw [size4, row4_size]) (by rw [row4_size, row4_size]) (row4_one _) ?_))
    have hsr : (W.setRow w.heap.size (row4 (setL xs))).heap[w.heap.size]? = some (.cells (row4 (setL xs)) 57 (0, 0)) := setRow_heap _ _ _ _ _ _ H1.out
    have hD2 : D ≠ w.heap.size := by omega
    have hKs : (W.setRow w.heap.size (row4 (setL xs))).heap[D]? = some (.deferred (some [])) := by rw [setRow_other _ _ _ _ hD2]; exact HK.out
    refine ⟨by simp, .inl ⟨_, _, rfl, run_takeDeferred hKs, ?_⟩⟩
    refine ⟨.agg (row4 (setL xs)), ?_, rfl, ?_⟩
    · refine results_cell_row rfl _ _ w.heap.size 57 _ (0, 0) _ rfl ?_ Tryd.underlying57 rfl (by rw [size4, row4_size])
      rw [World.putObj_heap_other (by omega)]
      exact hsr
    · exact (bl_setRow hB (Nat.le_refl _) _).trans (belowK_b (w := w) (Nat.le_refl _) _ D _ _ (by omega) hKs rfl rfl)
  case stop =>
    rintro D c pre W _ _ h _
    exact h.elim

theorem valL_fin (l : List Nat) (h : ∀ c ∈ l, c < 256) : valL (finL l) = l := finL_val l h

set_option maxRecDepth 20000 in
theorem values_make (A : Option Addr) (n c : Nat) (w : World) : Calls Tryd.prog 49 #[.slice A n c] w fun e w' =>
    e = .returned (.func (.func 66) #[] #[.pointer (some ⟨w.heap.size, 0, none⟩)]) ∧ w' = w.alloc (.cells #[.slice A n c] 35) := by
  go_enter Tryd.func49, Tryd.ntmps49
  go_wp2
  go_ret
  exact ⟨rfl, rfl⟩

theorem gath_values (Bx n c : Nat) (A : Option Addr) (s : List UInt8) (hs : s.length = n) (hn : n ≤ 140737488351232) (w : World) (hBx : Bx < w.heap.size)
    (hB : w.cell? ⟨Bx, 0, none⟩ = some (.slice A n c)) (hr : Rd w A s) :
    Calls Tryd.prog 48 #[.func (.func 66) #[] #[.pointer (some ⟨Bx, 0, none⟩)]] w (Got4 w (allW nilW (natL s))) := by
  have h := gathered_any 66 _ Tryd.func66 #[.pointer (some ⟨Bx, 0, none⟩)] (enters_of Tryd.func66 (by kernel_rfl) rfl) (finL (natL s)) w
    (fun w' hb => values_tell 3 Bx w.heap.size n c A s (by omega) hs hn w' (Nat.lt_of_lt_of_le hBx hb.size) ((hb.cell (p := ⟨Bx, 0, none⟩) hBx).trans hB) (hr.below hb) (fun h0 ad e => by
      obtain ⟨ad', e', hc⟩ := hr.cell (k := 0) (by omega)
      rw [e] at e'
      cases e'
      have := World.block_lt_of_cell? w _ hc
      rwa [add_block] at this))
  unfold setL at h
  rw [valL_fin _ (natL_lt s)] at h
  exact h
theorem gath_span (B1 B2 a b : Nat) (ha : a < 256) (hb : b < 256) (w : World) (hw1 : B1 < w.heap.size) (hw2 : B2 < w.heap.size)
    (h1 : w.cell? ⟨B1, 0, none⟩ = some (.int .u8 (a : Int))) (h2 : w.cell? ⟨B2, 0, none⟩ = some (.int .u8 (b : Int))) :
    Calls Tryd.prog 48 #[.func (.func 50) #[] #[.pointer (some ⟨B1, 0, none⟩), .pointer (some ⟨B2, 0, none⟩)]] w (Got4 w (allW nilW (spanL a (b + 1 - a)))) := by
  have h := gathered_any 50 _ Tryd.func50 #[.pointer (some ⟨B1, 0, none⟩), .pointer (some ⟨B2, 0, none⟩)] (enters_of Tryd.func50 (by kernel_rfl) rfl) (finL (spanL a (b + 1 - a))) w
    (fun w' hb2 => span_tell 3 B1 B2 w.heap.size a b (b + 1 - a) (by omega) ha hb rfl hw1 hw2 w' (Nat.lt_of_lt_of_le hw1 hb2.size) (Nat.lt_of_lt_of_le hw2 hb2.size) ((hb2.cell (p := ⟨B1, 0, none⟩) hw1).trans h1) ((hb2.cell (p := ⟨B2, 0, none⟩) hw2).trans h2))
  unfold setL at h
  rw [valL_fin _ (fun c hc => by
    obtain ⟨i, hi, rfl⟩ := List.mem_map.1 hc
    have := List.mem_range.1 hi
    omega)] at h
  exact h

set_option maxHeartbeats 2000000 in
set_option maxRecDepth 20000 in
theorem of_any (A : Option Addr) (n c : Nat) (s : List UInt8) (hs : s.length = n) (hn : n ≤ 140737488351232) (w : World) (hr : Rd w A s) :
    Calls Tryd.prog 31 #[.slice A n c] w (Got4 w (allW nilW (natL s))) := by
  have hz := zero4
  rw [tab4_row] at hz
  have HS := Lib.hid hs
  have HR := Lib.hid hr
  clear hs hr
  go_enter Tryd.func31, Tryd.ntmps31
  go_wp2_with fail
  clear hz
  have h0 := H4.new w nilW
  have b0 := bl_alloc (Below.refl w.heap.size w) (.cells (row4 nilW) 57)
  generalize w.alloc (.cells (row4 nilW) 57) = w0 at *
  refine (values_make A n c _).mono ?_
  rintro e w1 ⟨rfl, rfl⟩
  have h1 := h0.alloc (.cells #[.slice A n c] 35)
  have b1 := bl_alloc b0 (.cells #[.slice A n c] 35)
  have c1 := cell_of_row (w0.alloc (.cells #[.slice A n c] 35)) w0.heap.size 0 #[.slice A n c] 35 (0, 0) (heap_alloc_new w0 _)
  have l1 : w0.heap.size < (w0.alloc (.cells #[.slice A n c] 35)).heap.size := by simp
  generalize hX : w0.heap.size = X at *
  generalize w0.alloc (.cells #[.slice A n c] 35) = w1 at *
  have H1 := Lib.hid h1
  have B1 := Lib.hid b1
  have C1 := Lib.hid c1
  clear hX h0 b0 h1 b1 c1
  go_wp2_with fail
  refine (gath_values X n c A s HS.out hn _ l1 C1.out (HR.out.below B1.out)).mono ?_
  rintro e w2 ⟨rfl, b2⟩
  have H2 := Lib.hid (H1.out.below b2)
  have B2 := Lib.hid (bl_trans B1.out b2)
  clear H1 B1 b2 C1
  go_wp2_with (refine wpList_store_row rfl 57 _ _ rfl w.heap.size _ rfl rfl 57 _ H2.out (by rw [size4, row4_size]) (by rw [row4_size, row4_size]) (row4_one _) ?_)
  refine bodyPost_ret (v := .agg (row4 (allW nilW (natL s)))) (results_cell_row rfl _ _ w.heap.size 57 _ (0, 0) _ rfl (setRow_heap _ _ _ _ _ _ H2.out) Tryd.underlying57 rfl (by rw [size4, row4_size])) rfl ⟨rfl, ?_⟩
  exact bl_setRow B2.out (by omega) _

set_option maxHeartbeats 2000000 in
set_option maxRecDepth 20000 in
theorem span_any (a b : Nat) (ha : a < 256) (hb : b < 256) (w : World) :
    Calls Tryd.prog 36 #[.int .u8 (a : Int), .int .u8 (b : Int)] w (Got4 w (allW nilW (spanL a (b + 1 - a)))) := by
  have hz := zero4
  rw [tab4_row] at hz
  have HA := Lib.hid ha
  have HB := Lib.hid hb
  clear ha hb
  go_enter Tryd.func36, Tryd.ntmps36
  go_wp2_with fail
  clear hz
  have h0 := H4.new2 w (.cells #[.int .u8 (a : Int)] 5) (.cells #[.int .u8 (b : Int)] 5) nilW
  have b0 := bl_alloc (bl_alloc (bl_alloc (Below.refl w.heap.size w) (.cells #[.int .u8 (a : Int)] 5)) (.cells #[.int .u8 (b : Int)] 5)) (.cells (row4 nilW) 57)
  have c1 : (((w.alloc (.cells #[.int .u8 (a : Int)] 5)).alloc (.cells #[.int .u8 (b : Int)] 5)).alloc (.cells (row4 nilW) 57)).cell? ⟨w.heap.size, 0, none⟩ = some (.int .u8 (a : Int)) := by simp [go_sem]
  have c2 : (((w.alloc (.cells #[.int .u8 (a : Int)] 5)).alloc (.cells #[.int .u8 (b : Int)] 5)).alloc (.cells (row4 nilW) 57)).cell? ⟨w.heap.size + 1, 0, none⟩ = some (.int .u8 (b : Int)) := by simp [go_sem]
  have l1 : w.heap.size < (((w.alloc (.cells #[.int .u8 (a : Int)] 5)).alloc (.cells #[.int .u8 (b : Int)] 5)).alloc (.cells (row4 nilW) 57)).heap.size := by simp; omega
  have l2 : w.heap.size + 1 < (((w.alloc (.cells #[.int .u8 (a : Int)] 5)).alloc (.cells #[.int .u8 (b : Int)] 5)).alloc (.cells (row4 nilW) 57)).heap.size := by simp
  generalize ((w.alloc (.cells #[.int .u8 (a : Int)] 5)).alloc (.cells #[.int .u8 (b : Int)] 5)).alloc (.cells (row4 nilW) 57) = w1 at *
  have H1 := Lib.hid h0
  have B1 := Lib.hid b0
  have C1 := Lib.hid c1
  have C2 := Lib.hid c2
  clear h0 b0 c1 c2
  refine (gath_span w.heap.size (w.heap.size + 1) a b HA.out HB.out _ l1 l2 C1.out C2.out).mono ?_
  rintro e w2 ⟨rfl, b2⟩
  have H2 := Lib.hid (H1.out.below b2)
  have B2 := Lib.hid (bl_trans B1.out b2)
  clear H1 B1 b2 C1 C2
  go_wp2_with (refine wpList_store_row rfl 57 _ _ rfl (w.heap.size + 1 + 1) _ rfl rfl 57 _ H2.out (by rw [size4, row4_size]) (by rw [row4_size, row4_size]) (row4_one _) ?_)
  refine bodyPost_ret (v := .agg (row4 (allW nilW (spanL a (b + 1 - a))))) (results_cell_row rfl _ _ (w.heap.size + 1 + 1) 57 _ (0, 0) _ rfl (setRow_heap _ _ _ _ _ _ H2.out) Tryd.underlying57 rfl (by rw [size4, row4_size])) rfl ⟨rfl, ?_⟩
  exact bl_setRow B2.out (by omega) _

end Go.Proofs.YteedmkokbapkgaaDoor
