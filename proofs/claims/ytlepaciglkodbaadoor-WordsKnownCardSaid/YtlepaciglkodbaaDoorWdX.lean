/- Words of the grammar language: the chapter's examples, both ends. No condition. -/
import Derived.Test.YtlepaciglkodbaaDoorWdT
import Derived.Test.YtlepaciglkodbaaDoorWdQ
import Derived.Test.YtlepaciglkodbaaDoorWdU
import Derived.Test.YtlepaciglkodbaaDoorShelf
import Derived.Deep.SlicePairs
set_option linter.unusedVariables false
set_option linter.unusedSimpArgs false
namespace Go.Proofs.YtlepaciglkodbaaDoor
open Go.RowKit

def rep (b : UInt8) (n : Nat) : List UInt8 := List.replicate n b
theorem rep_len (b : UInt8) (n : Nat) : (rep b n).length = n := by simp [rep]
theorem repeatL_one (b : UInt8) : ∀ n, Lib.repeatL [b] n = rep b n
  | 0 => rfl
  | n + 1 => by rw [Lib.repeatL, repeatL_one b n]; rfl
def GotS (w : World) (l : List UInt8) (e : Ending) (w' : World) : Prop := e = .returned (.string ⟨l.toArray⟩) ∧ Below w.heap.size w w'
theorem rep_any (b : UInt8) (n : Nat) (z : Int) (hz : (n : Int) = z) (h2 : 2 ≤ n) (hn : n ≤ 10000) (w : World) : Calls Tryd.prog 29 #[.string ⟨#[b]⟩, .int .i64 z] w (GotS w (rep b n)) := by
  subst hz
  refine (Tryd.strings_Repeat_main ⟨#[b]⟩ n w h2 (by omega) (by show 1 * _ ≤ _; omega) (by show 0 < 1; omega)).mono ?_
  rintro e w' ⟨rfl, hb⟩
  refine ⟨?_, hb⟩
  have h := repeatL_one b n
  show Ending.returned (.string ⟨(Lib.repeatL [b] n).toArray⟩) = _
  rw [h]

theorem semi_cut : ∀ (n p : Nat), ∃ l, cutS (rep 59 n) p 0 false = .ok l ∧ l.length = n
  | 0, p => ⟨[], rfl, rfl⟩
  | n + 1, p => by
    obtain ⟨l, h1, h2⟩ := semi_cut n (p + 1)
    have e : rep 59 (n + 1) = 59 :: rep 59 n := rfl
    refine ⟨⟨4, p, p + 1⟩ :: l, ?_, by simp [h2]⟩
    rw [e, cutS, if_neg (by decide), if_neg (by decide)]
    have hf : firstE (59 :: rep 59 n) = some (4, 1) := by rw [firstE, if_pos (by decide)]
    rw [hf]
    simp only []
    rw [show 1 - 1 = 0 from rfl, h1]
    rfl
theorem semi_ans (n : Nat) (hn : n ≤ 8192) : ∃ l, ansE (rep 59 n) = (l, 0, 0) ∧ l.length = n := by
  obtain ⟨l, h1, h2⟩ := semi_cut n 0
  refine ⟨l, ?_, h2⟩
  unfold ansE cutE
  rw [if_neg (by rw [rep_len]; omega), h1]

/-- The law's texts. -/
def txtE (t25 t24 p32 p33 : List UInt8) : Nat → List UInt8
  | 0 => []
  | 1 => [97]
  | 2 => [95]
  | 3 => [57, 97]
  | 4 => [97, 57, 95, 90]
  | 5 => t25
  | 6 => t24
  | 7 => [105, 109, 112, 111, 114, 116]
  | 8 => [105, 109, 112, 111, 114, 116, 115]
  | 9 => [73, 109, 112, 111, 114, 116]
  | 10 => [112, 114, 101, 99]
  | 11 => [97, 32, 98]
  | 12 => [195, 164]
  | 13 => [97, 47, 98]
  | 14 => [46, 46, 47, 120, 45, 121, 95, 122, 46, 57]
  | 15 => [65]
  | 16 => p32
  | 17 => p33
  | 18 => [97, 92, 47, 98]
  | 19 => [97, 92, 92]
  | 20 => [92]
  | 21 => [97, 92]
  | 22 => [47]
  | 23 => [97, 10, 98]
  | 24 => [92, 10]
  | 25 => [92, 13]
  | 26 => [97, 13, 98]
  | 27 => [34]
  | 28 => [91, 97, 45, 122, 93, 43, 124, 120, 42]
  | _ => []
theorem txt_cells (W : World) (t : TypeId) (t25 t24 p32 p33 : List UInt8) (i : Nat) (hi : i < 29) : (W.alloc (.cells #[.string ⟨#[]⟩, .string ⟨#[97]⟩, .string ⟨#[95]⟩, .string ⟨#[57, 97]⟩, .string ⟨#[97, 57, 95, 90]⟩, .string ⟨t25.toArray⟩, .string ⟨t24.toArray⟩, .string ⟨#[105, 109, 112, 111, 114, 116]⟩, .string ⟨#[105, 109, 112, 111, 114, 116, 115]⟩, .string ⟨#[73, 109, 112, 111, 114, 116]⟩, .string ⟨#[112, 114, 101, 99]⟩, .string ⟨#[97, 32, 98]⟩, .string ⟨#[195, 164]⟩, .string ⟨#[97, 47, 98]⟩, .string ⟨#[46, 46, 47, 120, 45, 121, 95, 122, 46, 57]⟩, .string ⟨#[65]⟩, .string ⟨p32.toArray⟩, .string ⟨p33.toArray⟩, .string ⟨#[97, 92, 47, 98]⟩, .string ⟨#[97, 92, 92]⟩, .string ⟨#[92]⟩, .string ⟨#[97, 92]⟩, .string ⟨#[47]⟩, .string ⟨#[97, 10, 98]⟩, .string ⟨#[92, 10]⟩, .string ⟨#[92, 13]⟩, .string ⟨#[97, 13, 98]⟩, .string ⟨#[34]⟩, .string ⟨#[91, 97, 45, 122, 93, 43, 124, 120, 42]⟩] t)).cell? ⟨W.heap.size, i, none⟩ = some (.string ⟨(txtE t25 t24 p32 p33 i).toArray⟩) := by
  rw [cell_of_row _ W.heap.size i _ _ _ (heap_alloc_new W _)]
  match i, hi with
  | 0, _ => rfl
  | 1, _ => rfl
  | 2, _ => rfl
  | 3, _ => rfl
  | 4, _ => rfl
  | 5, _ => rfl
  | 6, _ => rfl
  | 7, _ => rfl
  | 8, _ => rfl
  | 9, _ => rfl
  | 10, _ => rfl
  | 11, _ => rfl
  | 12, _ => rfl
  | 13, _ => rfl
  | 14, _ => rfl
  | 15, _ => rfl
  | 16, _ => rfl
  | 17, _ => rfl
  | 18, _ => rfl
  | 19, _ => rfl
  | 20, _ => rfl
  | 21, _ => rfl
  | 22, _ => rfl
  | 23, _ => rfl
  | 24, _ => rfl
  | 25, _ => rfl
  | 26, _ => rfl
  | 27, _ => rfl
  | 28, _ => rfl
  | n + 29, h => exact absurd h (by omega)
theorem txt_len (t25 t24 p32 p33 : List UInt8) (h1 : t25.length ≤ 40) (h2 : t24.length ≤ 40) (h3 : p32.length ≤ 40) (h4 : p33.length ≤ 40) (i : Nat) (hi : i < 29) : (txtE t25 t24 p32 p33 i).length ≤ 40 := by
  match i, hi with
  | 0, _ => show ([] : List UInt8).length ≤ 40; decide
  | 1, _ => show ([97] : List UInt8).length ≤ 40; decide
  | 2, _ => show ([95] : List UInt8).length ≤ 40; decide
  | 3, _ => show ([57, 97] : List UInt8).length ≤ 40; decide
  | 4, _ => show ([97, 57, 95, 90] : List UInt8).length ≤ 40; decide
  | 5, _ => exact h1
  | 6, _ => exact h2
  | 7, _ => show ([105, 109, 112, 111, 114, 116] : List UInt8).length ≤ 40; decide
  | 8, _ => show ([105, 109, 112, 111, 114, 116, 115] : List UInt8).length ≤ 40; decide
  | 9, _ => show ([73, 109, 112, 111, 114, 116] : List UInt8).length ≤ 40; decide
  | 10, _ => show ([112, 114, 101, 99] : List UInt8).length ≤ 40; decide
  | 11, _ => show ([97, 32, 98] : List UInt8).length ≤ 40; decide
  | 12, _ => show ([195, 164] : List UInt8).length ≤ 40; decide
  | 13, _ => show ([97, 47, 98] : List UInt8).length ≤ 40; decide
  | 14, _ => show ([46, 46, 47, 120, 45, 121, 95, 122, 46, 57] : List UInt8).length ≤ 40; decide
  | 15, _ => show ([65] : List UInt8).length ≤ 40; decide
  | 16, _ => exact h3
  | 17, _ => exact h4
  | 18, _ => show ([97, 92, 47, 98] : List UInt8).length ≤ 40; decide
  | 19, _ => show ([97, 92, 92] : List UInt8).length ≤ 40; decide
  | 20, _ => show ([92] : List UInt8).length ≤ 40; decide
  | 21, _ => show ([97, 92] : List UInt8).length ≤ 40; decide
  | 22, _ => show ([47] : List UInt8).length ≤ 40; decide
  | 23, _ => show ([97, 10, 98] : List UInt8).length ≤ 40; decide
  | 24, _ => show ([92, 10] : List UInt8).length ≤ 40; decide
  | 25, _ => show ([92, 13] : List UInt8).length ≤ 40; decide
  | 26, _ => show ([97, 13, 98] : List UInt8).length ≤ 40; decide
  | 27, _ => show ([34] : List UInt8).length ≤ 40; decide
  | 28, _ => show ([91, 97, 45, 122, 93, 43, 124, 120, 42] : List UInt8).length ≤ 40; decide
  | n + 29, h => exact absurd h (by omega)
/-- A row of noughts. -/
def nulls (n : Nat) : Array Value := ((List.replicate n (0 : UInt8)).map bv).toArray
theorem nulls_made (n : Nat) : madeCells #[Value.int .u8 0] n = nulls n := by
  unfold madeCells nulls
  apply Array.ext
  · simp
  · intro i h1 h2
    simp [Nat.mod_one, bv]
/-- 'make([]byte, n)'. -/
theorem make_bytes (n : Nat) (z : Int) (hz : (n : Int) = z) (hn : n ≤ 1000000) (W : World) :
    (Instr.makeSlice 22 (.int .i64 z) (.int .i64 z)).run Tryd.prog W = .ok (.slice (some ⟨W.heap.size, 0, none⟩) n n) (W.alloc (.cells (nulls n) 5)) := by
  subst hz
  obtain ⟨i, hi, hz, hs, hb⟩ := info_parts info_u8
  rw [run_make (P := Tryd.prog) W 22 5 i (.int .u8 0) Tryd.underlying22 hi hz .i64 .i64 n n (by omega) (Int.le_refl _) (by rw [hb]; omega) (by omega), hs]
  have e : (Value.int .u8 0).cells = #[Value.int .u8 0] := rfl
  rw [e, Int.toNat_natCast, Nat.mul_one, nulls_made]
theorem rd_nulls (W : World) (n : Nat) : Rd (W.alloc (.cells (nulls n) 5)) (some ⟨W.heap.size, 0, none⟩) (List.replicate n 0) := fun h0 => by
  refine ⟨_, rfl, fun j hj => ?_⟩
  have e : (⟨W.heap.size, 0, none⟩ : Addr).add j = ⟨W.heap.size, j, none⟩ := by
    unfold Addr.add
    split
    · rename_i h; rw [h]
    · simp
  rw [e, cell_of_row _ W.heap.size j _ _ _ (heap_alloc_new W _)]
  unfold nulls
  simp only [List.length_replicate] at hj
  simp [hj]
/-- Bytes of a literal, and the law's call on them. -/
theorem lit_cut (w : World) (hT : Tab w) (l : List UInt8) (hl : l.length ≤ 10) : Calls Tryd.prog 3 #[.slice (some ⟨w.heap.size, 0, none⟩) l.length l.length] (w.alloc (.cells (l.map bv).toArray 5)) (Yes (w.alloc (.cells (l.map bv).toArray 5))) := by
  have ho := Own.lit (w := w) w.heap.size l (Nat.le_refl _) (by unfold maxLen; omega)
  obtain ⟨A, n, c, hv, hn, hnc, hcm, hr⟩ := ho.form
  injection hv with e1 e2 e3
  subst e1 e2 e3
  exact cutlaw_walk_any _ _ _ l _ (hT.below (bl_alloc (Below.refl _ _) _)) rfl (Nat.le_refl _) (by omega) hr
/-- One byte between two, and alone. -/
theorem lit1 (w : World) (hT : Tab w) (b : UInt8) : Calls Tryd.prog 3 #[.slice (some ⟨w.heap.size, 0, none⟩) 1 1] (w.alloc (.cells #[.int .u8 (b.toNat : Int)] 5)) (Yes (w.alloc (.cells #[.int .u8 (b.toNat : Int)] 5))) := lit_cut w hT [b] (by simp)
theorem lit3 (w : World) (hT : Tab w) (p q b : UInt8) (x y : Int) (hx : x = (p.toNat : Int)) (hy : y = (q.toNat : Int)) : Calls Tryd.prog 3 #[.slice (some ⟨w.heap.size, 0, none⟩) 3 3] (w.alloc (.cells #[.int .u8 x, .int .u8 (b.toNat : Int), .int .u8 y] 5)) (Yes (w.alloc (.cells #[.int .u8 x, .int .u8 (b.toNat : Int), .int .u8 y] 5))) := by
  subst hx hy
  exact lit_cut w hT [p, b, q] (by simp)
theorem one_str (w : World) (b : UInt8) : (convert 22 9 (.slice (some ⟨w.heap.size, 0, none⟩) 1 1)).run Tryd.prog (w.alloc (.cells #[.int .u8 (b.toNat : Int)] 5)) = .ok (.string ⟨#[b]⟩) (w.alloc (.cells #[.int .u8 (b.toNat : Int)] 5)) := by
  have ho := Own.lit (w := w) w.heap.size [b] (Nat.le_refl _) (by unfold maxLen; simp)
  obtain ⟨A, n, c, hv, hn, hnc, hcm, hr⟩ := ho.form
  injection hv with e1 e2 e3
  subst e1 e2 e3
  exact string_of _ _ 1 1 [b] rfl hr
/-- Four texts. -/
def fourE (a b c d : List UInt8) : Nat → List UInt8
  | 0 => a
  | 1 => b
  | 2 => c
  | _ => d
theorem four_cells (W : World) (t : TypeId) (a b c d : List UInt8) (j : Nat) (hj : j < 4) : (W.alloc (.cells #[.string ⟨a.toArray⟩, .string ⟨b.toArray⟩, .string ⟨c.toArray⟩, .string ⟨d.toArray⟩] t)).cell? ⟨W.heap.size, j, none⟩ = some (.string ⟨(fourE a b c d j).toArray⟩) := by
  rw [cell_of_row _ W.heap.size j _ _ _ (heap_alloc_new W _)]
  match j, hj with
  | 0, _ => rfl
  | 1, _ => rfl
  | 2, _ => rfl
  | 3, _ => rfl
/-- Bytes of a text, and the law's calls on them. -/
theorem cut_str (w : World) (hT : Tab w) (s : List UInt8) (hs : s.length ≤ 1000) : ∃ cap w1, Below w.heap.size w w1 ∧ (convert 9 22 (.string ⟨s.toArray⟩)).run Tryd.prog w = .ok (.slice (some ⟨w.heap.size, 0, none⟩) s.length cap) w1 ∧
    Calls Tryd.prog 3 #[.slice (some ⟨w.heap.size, 0, none⟩) s.length cap] w1 (Yes w1) ∧ Calls Tryd.prog 5 #[.slice (some ⟨w.heap.size, 0, none⟩) s.length cap] w1 (Yes w1) := by
  obtain ⟨cap, w1, h1, h2, hb, hr, hc⟩ := bytes_of w s (by unfold maxLen; omega)
  exact ⟨cap, w1, hb, hc, cutlaw_walk_any _ _ cap s w1 (hT.below hb) rfl h1 (by omega) hr, order_walk_any _ _ cap s w1 (hT.below hb) rfl h1 (by omega) hr⟩


set_option maxRecDepth 20000 in
set_option maxHeartbeats 4000000 in
theorem known_walk (w : World) (hT : Tab w) : Calls Tryd.prog 9 #[] w (Yes w) := by
  generalize hQ : Yes w = Q
  have HQ := Lib.hid hQ
  clear hQ
  go_enter Tryd.func9, Tryd.ntmps9
  go_wp2_with fail
  refine (rep_any 110 25 25 rfl (by omega) (by omega) _).mono ?_
  rintro e w1 ⟨rfl, hb1⟩
  have h24 := to_at (rep 110 25) 24 (by rw [rep_len]; omega) 24 rfl
  have hl24 : ((rep 110 25).take 24).length = 24 := by rw [List.length_take, rep_len]; omega
  have hl25 := rep_len 110 25
  generalize (rep 110 25).take 24 = t24 at *
  generalize rep 110 25 = t25 at *
  go_wp2_with fail
  refine wp_region_held_drew (S := fun _ => True) (by kernel_rfl) trivial (fun hHeld => ?_)
  try simp only [List.getElem_toArray, List.getElem_cons_zero, List.getElem_cons_succ, Act.put, List.setIfInBounds_toArray, List.set_cons_zero, List.set_cons_succ]
  refine wpAnyH_take (i := 0) (v := ?vzk20) rfl (by kernel_rfl) (by kernel_rfl) (by kernel_rfl) (fun _ _ _ h => h) (Or.inl ⟨by rfl, ?yzk20⟩) hHeld ?rzk20
  case yzk20 => (intro wS hSw; clear hSw; go_simp; try (with_reducible rfl))
  try simp only [List.getElem_toArray, List.getElem_cons_zero, List.getElem_cons_succ, Act.put, List.setIfInBounds_toArray, List.set_cons_zero, List.set_cons_succ]
  refine wpAnyH_take (i := 1) (v := ?vzk21) rfl (by kernel_rfl) (by kernel_rfl) (by kernel_rfl) (fun _ _ _ h => h) (Or.inl ⟨by rfl, ?yzk21⟩) hHeld ?rzk21
  case yzk21 => (intro wS hSw; clear hSw; go_simp; try (with_reducible rfl))
  try simp only [List.getElem_toArray, List.getElem_cons_zero, List.getElem_cons_succ, Act.put, List.setIfInBounds_toArray, List.set_cons_zero, List.set_cons_succ]
  refine wpAnyH_take (i := 2) (v := ?vzk22) rfl (by kernel_rfl) (by kernel_rfl) (by kernel_rfl) (fun _ _ _ h => h) (Or.inl ⟨by rfl, ?yzk22⟩) hHeld ?rzk22
  case yzk22 => (intro wS hSw; clear hSw; go_simp; try (with_reducible rfl))
  try simp only [List.getElem_toArray, List.getElem_cons_zero, List.getElem_cons_succ, Act.put, List.setIfInBounds_toArray, List.set_cons_zero, List.set_cons_succ]
  refine wpAnyH_ready (rs := [3]) (by kernel_rfl) (by simp) (AllReadyH.cons rfl (fun K hK => ?_) AllReadyH.nil)
  go_simp
  go_at_call 29
  refine (rep_any 112 32 32 rfl (by omega) (by omega) _).mono ?_
  rintro e v1 ⟨rfl, hb2⟩
  have P3 := Lib.hid (bl_trans (bl_drewN hb1 1) hb2)
  have hl32 := rep_len 112 32
  generalize rep 112 32 = p32 at *
  have hS1 : True := trivial
  clear hHeld hb2
  go_wp2_with fail
  refine hK.out _ _ hS1 (fun hHeld => ?_)
  clear hK K hS1
  try simp only [List.getElem_toArray, List.getElem_cons_zero, List.getElem_cons_succ, Act.put, List.setIfInBounds_toArray, List.set_cons_zero, List.set_cons_succ]
  refine wpAnyH_ready (rs := [4]) (by kernel_rfl) (by simp) (AllReadyH.cons rfl (fun K hK => ?_) AllReadyH.nil)
  go_simp
  go_at_call 29
  refine (rep_any 112 33 33 rfl (by omega) (by omega) _).mono ?_
  rintro e v2 ⟨rfl, hb2⟩
  have P4 := Lib.hid (bl_trans P3.out hb2)
  have hl33 := rep_len 112 33
  generalize rep 112 33 = p33 at *
  have hS1 : True := trivial
  clear hHeld hb2
  go_wp2_with fail
  refine hK.out _ _ hS1 (fun hHeld => ?_)
  clear hK K hS1
  try simp only [List.getElem_toArray, List.getElem_cons_zero, List.getElem_cons_succ, Act.put, List.setIfInBounds_toArray, List.set_cons_zero, List.set_cons_succ]
  have P5 := Lib.hid (bl_alloc P4.out (.cells #[.string ⟨#[]⟩, .string ⟨#[97]⟩, .string ⟨#[95]⟩, .string ⟨#[57, 97]⟩, .string ⟨#[97, 57, 95, 90]⟩, .string ⟨t25.toArray⟩, .string ⟨t24.toArray⟩, .string ⟨#[105, 109, 112, 111, 114, 116]⟩, .string ⟨#[105, 109, 112, 111, 114, 116, 115]⟩, .string ⟨#[73, 109, 112, 111, 114, 116]⟩, .string ⟨#[112, 114, 101, 99]⟩, .string ⟨#[97, 32, 98]⟩, .string ⟨#[195, 164]⟩, .string ⟨#[97, 47, 98]⟩, .string ⟨#[46, 46, 47, 120, 45, 121, 95, 122, 46, 57]⟩, .string ⟨#[65]⟩, .string ⟨p32.toArray⟩, .string ⟨p33.toArray⟩, .string ⟨#[97, 92, 47, 98]⟩, .string ⟨#[97, 92, 92]⟩, .string ⟨#[92]⟩, .string ⟨#[97, 92]⟩, .string ⟨#[47]⟩, .string ⟨#[97, 10, 98]⟩, .string ⟨#[92, 10]⟩, .string ⟨#[92, 13]⟩, .string ⟨#[97, 13, 98]⟩, .string ⟨#[34]⟩, .string ⟨#[91, 97, 45, 122, 93, 43, 124, 120, 42]⟩] 9))
  have HC := Lib.hid (fun i hi => txt_cells v2 9 t25 t24 p32 p33 i hi)
  have HLN := Lib.hid (fun i hi => txt_len t25 t24 p32 p33 (by omega) (by omega) (by omega) (by omega) i hi)
  refine wpAnyH_ready (rs := [5]) (by kernel_rfl) (by simp) (AllReadyH.cons rfl (fun K hK => ?_) AllReadyH.nil)
  go_simp
  refine hK.out _ _ trivial (fun hHeld => ?_)
  clear hK K
  try simp only [List.getElem_toArray, List.getElem_cons_zero, List.getElem_cons_succ, Act.put, List.setIfInBounds_toArray, List.set_cons_zero, List.set_cons_succ]
  refine wpAnyH_take (i := 6) (v := ?vzk2b6) rfl (by kernel_rfl) (by kernel_rfl) (by kernel_rfl) (fun _ _ _ h => h) (Or.inl ⟨by rfl, ?yzk2b6⟩) hHeld ?rzk2b6
  case yzk2b6 => (intro wS hSw; clear hSw; go_simp; try (with_reducible rfl))
  try simp only [List.getElem_toArray, List.getElem_cons_zero, List.getElem_cons_succ, Act.put, List.setIfInBounds_toArray, List.set_cons_zero, List.set_cons_succ]
  refine wpAnyH_done (by kernel_rfl) ?_ _
  clear hHeld
  generalize hW3 : v2.alloc (.cells #[.string ⟨#[]⟩, .string ⟨#[97]⟩, .string ⟨#[95]⟩, .string ⟨#[57, 97]⟩, .string ⟨#[97, 57, 95, 90]⟩, .string ⟨t25.toArray⟩, .string ⟨t24.toArray⟩, .string ⟨#[105, 109, 112, 111, 114, 116]⟩, .string ⟨#[105, 109, 112, 111, 114, 116, 115]⟩, .string ⟨#[73, 109, 112, 111, 114, 116]⟩, .string ⟨#[112, 114, 101, 99]⟩, .string ⟨#[97, 32, 98]⟩, .string ⟨#[195, 164]⟩, .string ⟨#[97, 47, 98]⟩, .string ⟨#[46, 46, 47, 120, 45, 121, 95, 122, 46, 57]⟩, .string ⟨#[65]⟩, .string ⟨p32.toArray⟩, .string ⟨p33.toArray⟩, .string ⟨#[97, 92, 47, 98]⟩, .string ⟨#[97, 92, 92]⟩, .string ⟨#[92]⟩, .string ⟨#[97, 92]⟩, .string ⟨#[47]⟩, .string ⟨#[97, 10, 98]⟩, .string ⟨#[92, 10]⟩, .string ⟨#[92, 13]⟩, .string ⟨#[97, 13, 98]⟩, .string ⟨#[34]⟩, .string ⟨#[91, 97, 45, 122, 93, 43, 124, 120, 42]⟩] 9) = W3 at *
  clear hW3
  generalize v2.heap.size = g at *
  generalize txtE t25 t24 p32 p33 = T at *
  have hT3 : Tab W3 := hT.below P5.out
  clear hl24 hl25 hl32 hl33 h24 P3 P4
  go_wp2_with fail
  go_loopw [3, 4, 5] (fun v3 _ _ wr => ∃ i : Nat, i ≤ 29 ∧ v3 = .int .i64 (i : Int) ∧ Below W3.heap.size W3 wr) (fun v3 _ _ _ => 29 - (intOf v3).toNat)
  case atStart => exact ⟨0, by omega, rfl, Below.refl _ _⟩
  case round =>
    obtain ⟨i, hi, rfl, hbw⟩ := hrel
    have HBW := Lib.hid hbw
    clear hbw
    by_cases hlt : i < 29
    · have bl : decide ((i : Int) < 29) = true := by simp; omega
      have HLT := Lib.hid hlt
      go_wp2_with fail
      go_loopw [4, 5] (fun v4 _ w3 => ∃ k : Nat, k ≤ 4 ∧ v4 = .int .i64 (k : Int) ∧ Below W3.heap.size W3 w3) (fun v4 _ _ => 4 - (intOf v4).toNat)
      case atStart => exact ⟨0, by omega, rfl, HBW.out⟩
      case round =>
        obtain ⟨k, hk, rfl, hbk⟩ := hrel
        have HBK := Lib.hid hbk
        clear hbk
        by_cases hlk : k < 4
        · have blk : decide ((k : Int) < 4) = true := by simp; omega
          have HLK := Lib.hid hlk
          obtain ⟨wc, hwc⟩ : ∃ wc, wc = wr := ⟨_, rfl⟩
          have hci := HC.out i hlt
          have hci := (HBK.out.cell (World.block_lt_of_cell? _ _ hci)).trans hci
          have hs0l := HLN.out i hlt
          obtain ⟨s0, hs0⟩ : ∃ s0, T i = s0 := ⟨_, rfl⟩
          rw [hs0] at hci hs0l
          have a1 := fun W => add_strs W [34] s0 (by simp) (by omega)
          have a3 := fun W => add_strs W [47] s0 (by simp) (by omega)
          have a5 := fun W => add_strs W [120, 61] s0 (by simp) (by omega)
          obtain ⟨x1, hx1⟩ : ∃ x, [34] ++ s0 = x := ⟨_, rfl⟩
          obtain ⟨x3, hx3⟩ : ∃ x, [47] ++ s0 = x := ⟨_, rfl⟩
          obtain ⟨x5, hx5⟩ : ∃ x, [120, 61] ++ s0 = x := ⟨_, rfl⟩
          rw [hx1] at a1
          rw [hx3] at a3
          rw [hx5] at a5
          have l1 : x1.length ≤ 42 := by rw [← hx1]; simp; omega
          have l3 : x3.length ≤ 42 := by rw [← hx3]; simp; omega
          have l5 : x5.length ≤ 42 := by rw [← hx5]; simp; omega
          have a2 := fun W => add_strs W x1 [34] (by omega) (by simp)
          have a4 := fun W => add_strs W x3 [47] (by omega) (by simp)
          have a6 := fun W => add_strs W x5 [59, 35] (by omega) (by simp)
          have l2 : (x1 ++ [34]).length ≤ 44 := by simp; omega
          have l4 : (x3 ++ [47]).length ≤ 44 := by simp; omega
          have l6 : (x5 ++ [59, 35]).length ≤ 44 := by simp; omega
          generalize x1 ++ [34] = x2 at *
          generalize x3 ++ [47] = x4 at *
          generalize x5 ++ [59, 35] = x6 at *
          have HS4 := Lib.hid (show ∀ j, j < 4 → (fourE s0 x2 x4 x6 j).length ≤ 44 from fun j hj => by
            match j, hj with
            | 0, _ => show s0.length ≤ 44; omega
            | 1, _ => exact l2
            | 2, _ => exact l4
            | 3, _ => exact l6)
          have hi29 : (i : Int) < 29 := by omega
          have hk4 : (k : Int) < 4 := by omega
          clear hx1 hx3 hx5 l1 l2 l3 l4 l5 l6 hs0l hs0 hwc
          go_wp2_with fail
          refine wp_region_held_drew (S := fun W' => W'.cell? ⟨g, i, none⟩ = some (.string ⟨s0.toArray⟩)) (by kernel_rfl) hci (fun hHeld => ?_)
          try simp only [List.getElem_toArray, List.getElem_cons_zero, List.getElem_cons_succ, Act.put, List.setIfInBounds_toArray, List.set_cons_zero, List.set_cons_succ]
          refine wpAnyH_take (i := 0) (v := ?vzk90) rfl (by kernel_rfl) (by kernel_rfl) (by kernel_rfl) (fun _ _ _ h => h) (Or.inl ⟨by rfl, ?yzk90⟩) hHeld ?rzk90
          case yzk90 => (intro wS hSw; replace hSw : wS.cell? ⟨g, i, none⟩ = some (.string ⟨s0.toArray⟩) := hSw; go_simp; try (with_reducible rfl))
          try simp only [List.getElem_toArray, List.getElem_cons_zero, List.getElem_cons_succ, Act.put, List.setIfInBounds_toArray, List.set_cons_zero, List.set_cons_succ]
          refine wpAnyH_take (i := 1) (v := ?vzk91) rfl (by kernel_rfl) (by kernel_rfl) (by kernel_rfl) (fun _ _ _ h => h) (Or.inl ⟨by rfl, ?yzk91⟩) hHeld ?rzk91
          case yzk91 => (intro wS hSw; replace hSw : wS.cell? ⟨g, i, none⟩ = some (.string ⟨s0.toArray⟩) := hSw; go_simp; try (with_reducible rfl))
          try simp only [List.getElem_toArray, List.getElem_cons_zero, List.getElem_cons_succ, Act.put, List.setIfInBounds_toArray, List.set_cons_zero, List.set_cons_succ]
          refine wpAnyH_take (i := 2) (v := ?vzk92) rfl (by kernel_rfl) (by kernel_rfl) (by kernel_rfl) (fun _ _ _ h => h) (Or.inl ⟨by rfl, ?yzk92⟩) hHeld ?rzk92
          case yzk92 => (intro wS hSw; replace hSw : wS.cell? ⟨g, i, none⟩ = some (.string ⟨s0.toArray⟩) := hSw; go_simp; try (with_reducible rfl))
          try simp only [List.getElem_toArray, List.getElem_cons_zero, List.getElem_cons_succ, Act.put, List.setIfInBounds_toArray, List.set_cons_zero, List.set_cons_succ]
          refine wpAnyH_take (i := 3) (v := ?vzk93) rfl (by kernel_rfl) (by kernel_rfl) (by kernel_rfl) (fun _ _ _ h => h) (Or.inl ⟨by rfl, ?yzk93⟩) hHeld ?rzk93
          case yzk93 => (intro wS hSw; replace hSw : wS.cell? ⟨g, i, none⟩ = some (.string ⟨s0.toArray⟩) := hSw; go_simp; try (with_reducible rfl))
          try simp only [List.getElem_toArray, List.getElem_cons_zero, List.getElem_cons_succ, Act.put, List.setIfInBounds_toArray, List.set_cons_zero, List.set_cons_succ]
          refine wpAnyH_take (i := 4) (v := ?vzk94) rfl (by kernel_rfl) (by kernel_rfl) (by kernel_rfl) (fun _ _ _ h => h) (Or.inl ⟨by rfl, ?yzk94⟩) hHeld ?rzk94
          case yzk94 => (intro wS hSw; replace hSw : wS.cell? ⟨g, i, none⟩ = some (.string ⟨s0.toArray⟩) := hSw; go_simp; try (with_reducible rfl))
          try simp only [List.getElem_toArray, List.getElem_cons_zero, List.getElem_cons_succ, Act.put, List.setIfInBounds_toArray, List.set_cons_zero, List.set_cons_succ]
          refine wpAnyH_take (i := 5) (v := ?vzk95) rfl (by kernel_rfl) (by kernel_rfl) (by kernel_rfl) (fun _ _ _ h => h) (Or.inl ⟨by rfl, ?yzk95⟩) hHeld ?rzk95
          case yzk95 => (intro wS hSw; replace hSw : wS.cell? ⟨g, i, none⟩ = some (.string ⟨s0.toArray⟩) := hSw; go_simp; try (with_reducible rfl))
          try simp only [List.getElem_toArray, List.getElem_cons_zero, List.getElem_cons_succ, Act.put, List.setIfInBounds_toArray, List.set_cons_zero, List.set_cons_succ]
          refine wpAnyH_take (i := 6) (v := ?vzk96) rfl (by kernel_rfl) (by kernel_rfl) (by kernel_rfl) (fun _ _ _ h => h) (Or.inl ⟨by rfl, ?yzk96⟩) hHeld ?rzk96
          case yzk96 => (intro wS hSw; replace hSw : wS.cell? ⟨g, i, none⟩ = some (.string ⟨s0.toArray⟩) := hSw; go_simp; try (with_reducible rfl))
          try simp only [List.getElem_toArray, List.getElem_cons_zero, List.getElem_cons_succ, Act.put, List.setIfInBounds_toArray, List.set_cons_zero, List.set_cons_succ]
          refine wpAnyH_take (i := 7) (v := ?vzk97) rfl (by kernel_rfl) (by kernel_rfl) (by kernel_rfl) (fun _ _ _ h => h) (Or.inl ⟨by rfl, ?yzk97⟩) hHeld ?rzk97
          case yzk97 => (intro wS hSw; replace hSw : wS.cell? ⟨g, i, none⟩ = some (.string ⟨s0.toArray⟩) := hSw; go_simp; try (with_reducible rfl))
          try simp only [List.getElem_toArray, List.getElem_cons_zero, List.getElem_cons_succ, Act.put, List.setIfInBounds_toArray, List.set_cons_zero, List.set_cons_succ]
          refine wpAnyH_take (i := 8) (v := ?vzk98) rfl (by kernel_rfl) (by kernel_rfl) (by kernel_rfl) (fun _ _ _ h => h) (Or.inl ⟨by rfl, ?yzk98⟩) hHeld ?rzk98
          case yzk98 => (intro wS hSw; replace hSw : wS.cell? ⟨g, i, none⟩ = some (.string ⟨s0.toArray⟩) := hSw; go_simp; try (with_reducible rfl))
          try simp only [List.getElem_toArray, List.getElem_cons_zero, List.getElem_cons_succ, Act.put, List.setIfInBounds_toArray, List.set_cons_zero, List.set_cons_succ]
          refine wpAnyH_take (i := 9) (v := ?vzk99) rfl (by kernel_rfl) (by kernel_rfl) (by kernel_rfl) (fun _ _ _ h => h) (Or.inl ⟨by rfl, ?yzk99⟩) hHeld ?rzk99
          case yzk99 => (intro wS hSw; replace hSw : wS.cell? ⟨g, i, none⟩ = some (.string ⟨s0.toArray⟩) := hSw; go_simp; try (with_reducible rfl))
          try simp only [List.getElem_toArray, List.getElem_cons_zero, List.getElem_cons_succ, Act.put, List.setIfInBounds_toArray, List.set_cons_zero, List.set_cons_succ]
          refine wpAnyH_take (i := 10) (v := ?vzk910) rfl (by kernel_rfl) (by kernel_rfl) (by kernel_rfl) (fun _ _ _ h => h) (Or.inl ⟨by rfl, ?yzk910⟩) hHeld ?rzk910
          case yzk910 => (intro wS hSw; replace hSw : wS.cell? ⟨g, i, none⟩ = some (.string ⟨s0.toArray⟩) := hSw; go_simp; try (with_reducible rfl))
          try simp only [List.getElem_toArray, List.getElem_cons_zero, List.getElem_cons_succ, Act.put, List.setIfInBounds_toArray, List.set_cons_zero, List.set_cons_succ]
          refine wpAnyH_take (i := 11) (v := ?vzk911) rfl (by kernel_rfl) (by kernel_rfl) (by kernel_rfl) (fun _ _ _ h => h) (Or.inl ⟨by rfl, ?yzk911⟩) hHeld ?rzk911
          case yzk911 => (intro wS hSw; replace hSw : wS.cell? ⟨g, i, none⟩ = some (.string ⟨s0.toArray⟩) := hSw; go_simp; try (with_reducible rfl))
          try simp only [List.getElem_toArray, List.getElem_cons_zero, List.getElem_cons_succ, Act.put, List.setIfInBounds_toArray, List.set_cons_zero, List.set_cons_succ]
          refine wpAnyH_take (i := 12) (v := ?vzk912) rfl (by kernel_rfl) (by kernel_rfl) (by kernel_rfl) (fun _ _ _ h => h) (Or.inl ⟨by rfl, ?yzk912⟩) hHeld ?rzk912
          case yzk912 => (intro wS hSw; replace hSw : wS.cell? ⟨g, i, none⟩ = some (.string ⟨s0.toArray⟩) := hSw; go_simp; try (with_reducible rfl))
          try simp only [List.getElem_toArray, List.getElem_cons_zero, List.getElem_cons_succ, Act.put, List.setIfInBounds_toArray, List.set_cons_zero, List.set_cons_succ]
          refine wpAnyH_take (i := 13) (v := ?vzk913) rfl (by kernel_rfl) (by kernel_rfl) (by kernel_rfl) (fun _ _ _ h => h) (Or.inl ⟨by rfl, ?yzk913⟩) hHeld ?rzk913
          case yzk913 => (intro wS hSw; replace hSw : wS.cell? ⟨g, i, none⟩ = some (.string ⟨s0.toArray⟩) := hSw; go_simp; try (with_reducible rfl))
          try simp only [List.getElem_toArray, List.getElem_cons_zero, List.getElem_cons_succ, Act.put, List.setIfInBounds_toArray, List.set_cons_zero, List.set_cons_succ]
          refine wpAnyH_take (i := 14) (v := ?vzk914) rfl (by kernel_rfl) (by kernel_rfl) (by kernel_rfl) (fun _ _ _ h => h) (Or.inl ⟨by rfl, ?yzk914⟩) hHeld ?rzk914
          case yzk914 => (intro wS hSw; replace hSw : wS.cell? ⟨g, i, none⟩ = some (.string ⟨s0.toArray⟩) := hSw; go_simp; try (with_reducible rfl))
          try simp only [List.getElem_toArray, List.getElem_cons_zero, List.getElem_cons_succ, Act.put, List.setIfInBounds_toArray, List.set_cons_zero, List.set_cons_succ]
          refine wpAnyH_take (i := 15) (v := ?vzk915) rfl (by kernel_rfl) (by kernel_rfl) (by kernel_rfl) (fun _ _ _ h => h) (Or.inl ⟨by rfl, ?yzk915⟩) hHeld ?rzk915
          case yzk915 => (intro wS hSw; replace hSw : wS.cell? ⟨g, i, none⟩ = some (.string ⟨s0.toArray⟩) := hSw; go_simp; try (with_reducible rfl))
          try simp only [List.getElem_toArray, List.getElem_cons_zero, List.getElem_cons_succ, Act.put, List.setIfInBounds_toArray, List.set_cons_zero, List.set_cons_succ]
          refine wpAnyH_take (i := 16) (v := ?vzk916) rfl (by kernel_rfl) (by kernel_rfl) (by kernel_rfl) (fun _ _ _ h => h) (Or.inl ⟨by rfl, ?yzk916⟩) hHeld ?rzk916
          case yzk916 => (intro wS hSw; replace hSw : wS.cell? ⟨g, i, none⟩ = some (.string ⟨s0.toArray⟩) := hSw; go_simp; try (with_reducible rfl))
          try simp only [List.getElem_toArray, List.getElem_cons_zero, List.getElem_cons_succ, Act.put, List.setIfInBounds_toArray, List.set_cons_zero, List.set_cons_succ]
          refine wpAnyH_take (i := 17) (v := ?vzk917) rfl (by kernel_rfl) (by kernel_rfl) (by kernel_rfl) (fun _ _ _ h => h) (Or.inl ⟨by rfl, ?yzk917⟩) hHeld ?rzk917
          case yzk917 => (intro wS hSw; replace hSw : wS.cell? ⟨g, i, none⟩ = some (.string ⟨s0.toArray⟩) := hSw; go_simp; try (with_reducible rfl))
          try simp only [List.getElem_toArray, List.getElem_cons_zero, List.getElem_cons_succ, Act.put, List.setIfInBounds_toArray, List.set_cons_zero, List.set_cons_succ]
          refine wpAnyH_take (i := 18) (v := ?vzk918) rfl (by kernel_rfl) (by kernel_rfl) (by kernel_rfl) (fun _ _ _ h => h) (Or.inl ⟨by rfl, ?yzk918⟩) hHeld ?rzk918
          case yzk918 => (intro wS hSw; replace hSw : wS.cell? ⟨g, i, none⟩ = some (.string ⟨s0.toArray⟩) := hSw; go_simp; try (with_reducible rfl))
          try simp only [List.getElem_toArray, List.getElem_cons_zero, List.getElem_cons_succ, Act.put, List.setIfInBounds_toArray, List.set_cons_zero, List.set_cons_succ]
          refine wpAnyH_take (i := 19) (v := ?vzk919) rfl (by kernel_rfl) (by kernel_rfl) (by kernel_rfl) (fun _ _ _ h => h) (Or.inl ⟨by rfl, ?yzk919⟩) hHeld ?rzk919
          case yzk919 => (intro wS hSw; replace hSw : wS.cell? ⟨g, i, none⟩ = some (.string ⟨s0.toArray⟩) := hSw; go_simp; try (with_reducible rfl))
          try simp only [List.getElem_toArray, List.getElem_cons_zero, List.getElem_cons_succ, Act.put, List.setIfInBounds_toArray, List.set_cons_zero, List.set_cons_succ]
          refine wpAnyH_take (i := 20) (v := ?vzk920) rfl (by kernel_rfl) (by kernel_rfl) (by kernel_rfl) (fun _ _ _ h => h) (Or.inl ⟨by rfl, ?yzk920⟩) hHeld ?rzk920
          case yzk920 => (intro wS hSw; replace hSw : wS.cell? ⟨g, i, none⟩ = some (.string ⟨s0.toArray⟩) := hSw; go_simp; try (with_reducible rfl))
          try simp only [List.getElem_toArray, List.getElem_cons_zero, List.getElem_cons_succ, Act.put, List.setIfInBounds_toArray, List.set_cons_zero, List.set_cons_succ]
          refine wpAnyH_take (i := 21) (v := ?vzk921) rfl (by kernel_rfl) (by kernel_rfl) (by kernel_rfl) (fun _ _ _ h => h) (Or.inl ⟨by rfl, ?yzk921⟩) hHeld ?rzk921
          case yzk921 => (intro wS hSw; replace hSw : wS.cell? ⟨g, i, none⟩ = some (.string ⟨s0.toArray⟩) := hSw; go_simp; try (with_reducible rfl))
          try simp only [List.getElem_toArray, List.getElem_cons_zero, List.getElem_cons_succ, Act.put, List.setIfInBounds_toArray, List.set_cons_zero, List.set_cons_succ]
          refine wpAnyH_take (i := 23) (v := ?vzk923) rfl (by kernel_rfl) (by kernel_rfl) (by kernel_rfl) (fun _ _ _ h => h) (Or.inl ⟨by rfl, ?yzk923⟩) hHeld ?rzk923
          case yzk923 => (intro wS hSw; replace hSw : wS.cell? ⟨g, i, none⟩ = some (.string ⟨s0.toArray⟩) := hSw; go_simp; try (with_reducible rfl))
          try simp only [List.getElem_toArray, List.getElem_cons_zero, List.getElem_cons_succ, Act.put, List.setIfInBounds_toArray, List.set_cons_zero, List.set_cons_succ]
          have hfc := four_cells wr 9 s0 x2 x4 x6 k hlk
          have hS1 : ((wr.alloc (.cells #[.string ⟨s0.toArray⟩, .string ⟨x2.toArray⟩, .string ⟨x4.toArray⟩, .string ⟨x6.toArray⟩] 9)).drew).cell? ⟨g, i, none⟩ = some (.string ⟨s0.toArray⟩) := (World.cell?_alloc_lt wr (.cells #[.string ⟨s0.toArray⟩, .string ⟨x2.toArray⟩, .string ⟨x4.toArray⟩, .string ⟨x6.toArray⟩] 9) _ (World.block_lt_of_cell? wr.drew _ hHeld)).trans hHeld
          refine wpAnyH_ready (rs := [22]) (by kernel_rfl) (by simp) (AllReadyH.cons rfl (fun K hK => ?_) AllReadyH.nil)
          go_simp
          refine hK.out _ _ hS1 (fun hHeld => ?_)
          clear hK K
          have HB5 := Lib.hid (show Below W3.heap.size W3 ((wr.alloc (.cells #[.string ⟨s0.toArray⟩, .string ⟨x2.toArray⟩, .string ⟨x4.toArray⟩, .string ⟨x6.toArray⟩] 9)).drew) from bl_drewN (bl_alloc HBK.out _) 1)
          have hfc : ((wr.alloc (.cells #[.string ⟨s0.toArray⟩, .string ⟨x2.toArray⟩, .string ⟨x4.toArray⟩, .string ⟨x6.toArray⟩] 9)).drew).cell? ⟨wr.heap.size, k, none⟩ = some (.string ⟨(fourE s0 x2 x4 x6 k).toArray⟩) := hfc
          generalize (wr.alloc (.cells #[.string ⟨s0.toArray⟩, .string ⟨x2.toArray⟩, .string ⟨x4.toArray⟩, .string ⟨x6.toArray⟩] 9)).drew = W5 at *
          have hfc : W5.cell? ⟨wr.heap.size, k, none⟩ = some (.string ⟨(fourE s0 x2 x4 x6 k).toArray⟩) := hfc
          have HSL := Lib.hid (HS4.out k hlk)
          generalize fourE s0 x2 x4 x6 k = s at *
          try simp only [List.getElem_toArray, List.getElem_cons_zero, List.getElem_cons_succ, Act.put, List.setIfInBounds_toArray, List.set_cons_zero, List.set_cons_succ]
          refine wpAnyH_take (i := 24) (v := ?vzk924) rfl (by kernel_rfl) (by kernel_rfl) (by kernel_rfl) (fun _ _ _ h => h) (Or.inl ⟨by rfl, ?yzk924⟩) hHeld ?rzk924
          case yzk924 => (intro wS hSw; replace hSw : wS.cell? ⟨g, i, none⟩ = some (.string ⟨s0.toArray⟩) := hSw; go_simp; try (with_reducible rfl))
          try simp only [List.getElem_toArray, List.getElem_cons_zero, List.getElem_cons_succ, Act.put, List.setIfInBounds_toArray, List.set_cons_zero, List.set_cons_succ]
          refine wpAnyH_ready (rs := [25]) (by kernel_rfl) (by simp) (AllReadyH.cons rfl (fun K hK => ?_) AllReadyH.nil)
          go_simp
          refine hK.out _ _ hS1 (fun hHeld => ?_)
          clear hK K
          try simp only [List.getElem_toArray, List.getElem_cons_zero, List.getElem_cons_succ, Act.put, List.setIfInBounds_toArray, List.set_cons_zero, List.set_cons_succ]
          refine wpAnyH_take (i := 26) (v := ?vzk926) rfl (by kernel_rfl) (by kernel_rfl) (by kernel_rfl) (fun _ _ _ h => h) (Or.inl ⟨by rfl, ?yzk926⟩) hHeld ?rzk926
          case yzk926 => (intro wS hSw; replace hSw : wS.cell? ⟨g, i, none⟩ = some (.string ⟨s0.toArray⟩) := hSw; go_simp; try (with_reducible rfl))
          try simp only [List.getElem_toArray, List.getElem_cons_zero, List.getElem_cons_succ, Act.put, List.setIfInBounds_toArray, List.set_cons_zero, List.set_cons_succ]
          refine wpAnyH_done (by kernel_rfl) ?_ _
          clear hHeld
          have hT5 := hT3.below HB5.out
          have hw8 : wrap64 ((i : Int) - 8) = (i : Int) - 8 := IntWalk.wrap64_in _ ⟨by omega, by omega⟩
          have hmy := may_walk s ((i : Int) - 8) W5 hT5 (by have := HSL.out; omega) (by omega) (by omega)
          have HMY := Lib.hid hmy
          clear hmy hfc a1 a2 a3 a4 a5 a6 hci
          go_wp2_with fail
          refine HMY.out.mono ?_
          rintro e wm ⟨rfl, hbm⟩
          have HBM := Lib.hid (bl_trans HB5.out hbm)
          have hTm := hT3.below HBM.out
          clear hbm
          obtain ⟨cap1, wx1, hbx1, hcv1, hcc1, hco1⟩ := cut_str wm hTm s (by have := HSL.out; omega)
          have HBX1 := Lib.hid (bl_trans HBM.out hbx1)
          have HCC1 := Lib.hid hcc1
          clear hbx1 hcc1 hco1
          go_wp2_with fail
          refine HCC1.out.mono ?_
          rintro e wy1 ⟨rfl, hby1⟩
          have HBY1 := Lib.hid (bl_trans HBX1.out hby1)
          have hTy1 := hT3.below HBY1.out
          clear hby1 hcv1
          obtain ⟨cap2, wx2, hbx2, hcv2, hcc2, hco2⟩ := cut_str wy1 hTy1 s (by have := HSL.out; omega)
          have HBX2 := Lib.hid (bl_trans HBY1.out hbx2)
          have HCC2 := Lib.hid hco2
          clear hbx2 hcc2 hco2
          go_wp2_with fail
          refine HCC2.out.mono ?_
          rintro e wy2 ⟨rfl, hby2⟩
          have HBY2 := Lib.hid (bl_trans HBX2.out hby2)
          have hTy2 := hT3.below HBY2.out
          clear hby2 hcv2
          have had := fun W => add_strs W s [32, 97] (by have := HSL.out; omega) (by simp)
          have hsa : (s ++ [32, 97]).length ≤ 50 := by have := HSL.out; simp; omega
          have HSA := Lib.hid hsa
          clear hsa
          generalize s ++ [32, 97] = sa at *
          obtain ⟨cap3, wx3, hbx3, hcv3, hcc3, hco3⟩ := cut_str wy2 hTy2 sa (by have := HSL.out; have := HSA.out; omega)
          have HBX3 := Lib.hid (bl_trans HBY2.out hbx3)
          have HCC3 := Lib.hid hcc3
          clear hbx3 hcc3 hco3
          go_wp2_with fail
          refine HCC3.out.mono ?_
          rintro e wy3 ⟨rfl, hby3⟩
          have HBY3 := Lib.hid (bl_trans HBX3.out hby3)
          have hTy3 := hT3.below HBY3.out
          clear hby3 hcv3
          obtain ⟨J, hJ⟩ : ∃ J, (i + 1) % 29 = J := ⟨_, rfl⟩
          have hJ29 : J < 29 := by omega
          have hmod : ((i : Int) + 1).tmod 29 = (J : Int) := by
            rw [Int.tmod_eq_emod_of_nonneg (by omega)]
            omega
          have hmod2 : wrap64 (((i : Int) + 1).tmod 29) = (J : Int) := by rw [hmod]; exact IntWalk.wrap64_in _ ⟨by omega, by omega⟩
          have hcj0 := HC.out J hJ29
          have hcj := (HBY3.out.cell (World.block_lt_of_cell? _ _ hcj0)).trans hcj0
          have htl := HLN.out J hJ29
          have hJi : (J : Int) < 29 := by omega
          have hsj : (s ++ T J).length ≤ 100 := by have := HSL.out; simp; omega
          have had2 := fun W => add_strs W s (T J) (by have := HSL.out; omega) (by omega)
          have HSJ := Lib.hid hsj
          clear hsj htl hcj0 hJ
          generalize T J = tj at *
          generalize s ++ tj = sj at *
          obtain ⟨cap4, wx4, hbx4, hcv4, hcc4, hco4⟩ := cut_str wy3 hTy3 sj (by have := HSL.out; have := HSJ.out; omega)
          have HBX4 := Lib.hid (bl_trans HBY3.out hbx4)
          have HCC4 := Lib.hid hcc4
          clear hbx4 hcc4 hco4
          go_wp2_with fail
          refine HCC4.out.mono ?_
          rintro e wy4 ⟨rfl, hby4⟩
          have HBY4 := Lib.hid (bl_trans HBX4.out hby4)
          have hTy4 := hT3.below HBY4.out
          clear hby4 hcv4
          go_wp2_with fail
          go_roundw
          case rel => exact ⟨k + 1, by have := HLK.out; omega, by go_num, HBY4.out⟩
          case measure => have := HLK.out; simp [intOf]; omega
        · have blk : decide ((k : Int) < 4) = false := by simp; omega
          clear hlk
          go_wp2_with fail
          go_roundw
          case rel => exact ⟨i + 1, by have := HLT.out; omega, by go_num, HBK.out⟩
          case measure => have := HLT.out; simp [intOf]; omega
    · have bl : decide ((i : Int) < 29) = false := by simp; omega
      clear hlt
      go_wp2_with fail
      go_loopw [6] (fun v6 w3 => ∃ cc : Nat, cc ≤ 256 ∧ v6 = .int .i64 (cc : Int) ∧ Below W3.heap.size W3 w3) (fun v6 _ => 256 - (intOf v6).toNat)
      case atStart => exact ⟨0, by omega, rfl, HBW.out⟩
      case round =>
        obtain ⟨cc, hcc, rfl, hbk⟩ := hrel
        have HBK := Lib.hid hbk
        clear hbk
        by_cases hlc : cc < 256
        · have blc : decide ((cc : Int) < 256) = true := by simp; omega
          have HLC := Lib.hid hlc
          obtain ⟨b, hb⟩ : ∃ b : UInt8, b.toNat = cc := ⟨UInt8.ofNat cc, by rw [UInt8.toNat_ofNat']; omega⟩
          have hcv : IntKind.u8.wrap (cc : Int) = (b.toNat : Int) := by rw [hb, IntKind.wrap_u8]; omega
          have hTr := hT3.below HBK.out
          have hc64 : -9223372036854775808 ≤ (cc : Int) ∧ (cc : Int) ≤ 9223372036854775807 := by omega
          clear hb hlc
          have HC1 := Lib.hid (lit1 wr hTr b)
          go_wp2_with fail
          refine HC1.out.mono ?_
          rintro e z1 ⟨rfl, hbz1⟩
          have HZ1 := Lib.hid (bl_trans (bl_alloc HBK.out _) hbz1)
          have hTz1 := hT3.below HZ1.out
          clear hbz1
          have HC2 := Lib.hid (lit3 z1 hTz1 97 98 b 97 98 rfl rfl)
          go_wp2_with fail
          refine HC2.out.mono ?_
          rintro e z2 ⟨rfl, hbz2⟩
          have HZ2 := Lib.hid (bl_trans (bl_alloc HZ1.out _) hbz2)
          have hTz2 := hT3.below HZ2.out
          clear hbz2
          have HC3 := Lib.hid (lit3 z2 hTz2 34 34 b 34 34 rfl rfl)
          go_wp2_with fail
          refine HC3.out.mono ?_
          rintro e z3 ⟨rfl, hbz3⟩
          have HZ3 := Lib.hid (bl_trans (bl_alloc HZ2.out _) hbz3)
          have hTz3 := hT3.below HZ3.out
          clear hbz3
          have HC4 := Lib.hid (lit3 z3 hTz3 47 47 b 47 47 rfl rfl)
          go_wp2_with fail
          refine HC4.out.mono ?_
          rintro e z4 ⟨rfl, hbz4⟩
          have HZ4 := Lib.hid (bl_trans (bl_alloc HZ3.out _) hbz4)
          have hTz4 := hT3.below HZ4.out
          clear hbz4

          have hos := one_str z4 b
          have hmy := may_walk [b] (cc : Int) (z4.alloc (.cells #[.int .u8 (b.toNat : Int)] 5)) (hTz4.below (bl_alloc (Below.refl _ _) _)) (by simp) hc64.1 hc64.2
          have HMY := Lib.hid hmy
          clear hmy
          go_wp2_with fail
          refine HMY.out.mono ?_
          rintro e z5 ⟨rfl, hbz5⟩
          have HZ5 := Lib.hid (bl_trans (bl_alloc HZ4.out _) hbz5)
          clear hbz5 hos
          go_wp2_with fail
          go_roundw
          case rel => exact ⟨cc + 1, by have := HLC.out; omega, by go_num, HZ5.out⟩
          case measure => have := HLC.out; simp [intOf]; omega
        · have blc : decide ((cc : Int) < 256) = false := by simp; omega
          have hTr := hT3.below HBK.out
          obtain ⟨n1, hn1⟩ : ∃ n, n = 8193 := ⟨_, rfl⟩
          have hcu := cut_any _ n1 n1 (List.replicate n1 0) (wr.alloc (.cells (nulls n1) 5)) (by simp) (rd_nulls wr n1) (by unfold maxLen; omega) (hTr.below (bl_alloc (Below.refl _ _) _))
          have ha : ansE (List.replicate n1 0) = ([], 0, 5) := by unfold ansE; rw [if_pos (by simp; omega)]
          rw [ha] at hcu
          have HCU := Lib.hid hcu
          have hmb := make_bytes n1 8193 (by rw [hn1]; rfl) (by omega)
          clear hlc ha hcu hn1
          generalize nulls n1 = nl at *
          go_wp2_with fail
          refine HCU.out.mono ?_
          rintro e y1 ⟨v1', rfl, ho1, hby1⟩
          have HY1 := Lib.hid (bl_trans (bl_alloc HBK.out _) hby1)
          clear ho1 hby1 hmb
          obtain ⟨n8, hn8⟩ : ∃ n, n = 8192 := ⟨_, rfl⟩
          have hrp := rep_any 59 n8 8192 (by rw [hn8]; rfl) (by omega) (by omega)
          have HN8 := Lib.hid hn8
          clear hn8
          go_wp2_with fail
          refine (hrp _).mono ?_
          rintro e y2 ⟨rfl, hby2⟩
          have HY2 := Lib.hid (bl_trans HY1.out hby2)
          obtain ⟨l8, ha8, hl8⟩ := semi_ans n8 (by have := HN8.out; omega)
          have hrl := rep_len 59 n8
          obtain ⟨cap, y3, hc1, hc2, hby3, hr3, hconv⟩ := bytes_of y2 (rep 59 n8) (by rw [hrl]; unfold maxLen; have := HN8.out; omega)
          have HY3 := Lib.hid (bl_trans HY2.out hby3)
          have hcu := cut_any _ _ cap (rep 59 n8) y3 rfl hr3 (by rw [hrl]; unfold maxLen; have := HN8.out; omega) (hT3.below HY3.out)
          rw [ha8] at hcu
          have HCU2 := Lib.hid hcu
          clear hcu hby2 hby3 hr3 ha8 hrp
          rw [hrl] at hconv HCU2
          have HL8 := Lib.hid hl8
          clear hl8 hrl
          generalize rep 59 n8 = r8 at *
          go_wp2_with fail
          refine HCU2.out.mono ?_
          rintro e y4 ⟨v4, rfl, ho4, hby4⟩
          obtain ⟨A4, n4, c4, rfl, HN4, _, _, _⟩ := ho4.shape
          have hn4 : ((n4 : Int) == 8192) = true := by
            have h1 : l8.length = n4 := HN4.out
            have h2 := HL8.out
            have := HN8.out
            simp; omega
          have HY4 := Lib.hid (bl_trans HY3.out hby4)
          have hT4 := hT3.below HY4.out
          clear ho4 hby4 hconv
          go_wp2_with fail
          refine (awake_any _ hT4).mono ?_
          rintro e y5 ⟨rfl, hby5⟩
          have HFIN := Lib.hid (P5.out.trans ((bl_trans HY4.out hby5).mono (by exact P5.out.size)))
          clear hby5
          go_wp2_with fail
          exact post_is HQ ⟨rfl, HFIN.out⟩


end Go.Proofs.YtlepaciglkodbaaDoor
