/- The writer of patterns: set. Under: math/bits' table as it was laid. -/
import Derived.Test.YteedmkokbapkgaaDoorRgWt
set_option linter.unusedVariables false
set_option linter.unusedSimpArgs false
namespace Go.Proofs.YteedmkokbapkgaaDoor
open Go.RowKit

def setW (s : S4) : List UInt8 :=
  if (elems s.f).length = 1 then oneW sgA (UInt8.ofNat ((elems s.f).headD 0))
  else if s = dotS then [46]
  else if (elems s.f).length = 0 ∨ (128 < (elems s.f).length ∧ (elems s.f).length < 256) then 91 :: 94 :: (strW 256 (notS s) ++ [93])
  else 91 :: (strW 256 s ++ [93])
theorem eq_sets (s t : S4) (W : World) : (Op.equalIn 10000 57 (.agg (row4 s.f)) (.agg (row4 t.f))).run Tryd.prog W = .ok (decide (s = t)) W := by
  by_cases h : s = t
  · rw [decide_eq_true h]
    exact same_sets (f := s.f) (g := t.f) (by rw [h]; exact fun _ _ => rfl) W
  · rw [decide_eq_false h]
    exact other_sets (f := s.f) (g := t.f) (fun e => h (by rw [← f_s4 s, ← f_s4 t]; exact s4_congr e)) W
theorem strW_len : ∀ (k : Nat) (L : S4), (strW k L).length ≤ 9 * k
  | 0, _ => by simp [strW]
  | k + 1, L => by
    cases h : elems L.f with
    | nil => rw [strW_nil _ _ h]; simp
    | cons c l =>
      rw [strW_cons k L c l h]
      have h1 := oneW_len sgC (UInt8.ofNat c)
      have h2 := oneW_len sgC (UInt8.ofNat (endE L c))
      have h3 := strW_len k (lessS L (spanS c (endE L c)))
      split <;> (simp; omega)

set_option maxRecDepth 100000 in
set_option maxHeartbeats 4000000 in
theorem wset_any {W0 : World} {b : Nat} {A : Option Addr} {n c : Nat} {txt : List UInt8} {w : World} (s : S4) (hT : Tab W0) (h : WAt W0 b A n c txt w) (hm : txt.length ≤ 800000000) :
    Calls Tryd.prog 62 #[.pointer (some ⟨b, 0, none⟩), encS s] w (GotW W0 b A n c w (txt ++ setW s)) := by
  generalize hQ : GotW W0 b A n c w (txt ++ setW s) = Q
  have HQ := Lib.hid hQ
  have HT := Lib.hid hT
  clear hQ hT
  have bA := bl_alloc (Below.refl w.heap.size w) (.cells (row4 s.f) 57)
  have hs0 : HS (w.alloc (.cells (row4 s.f) 57)) w.heap.size s := heap_alloc_new w _
  have hw0 := h.then bA
  have hk0 : Keeps b w (w.alloc (.cells (row4 s.f) 57)) := keeps_below bA
  have hsz := h.below.size
  have HM := Lib.hid hm
  have HS0 := Lib.hid hs0
  have HW0 := Lib.hid hw0
  have HK0 := Lib.hid hk0
  clear h hs0 hw0 hk0 bA hm
  show Calls Tryd.prog 62 #[.pointer (some ⟨b, 0, none⟩), .agg (row4 s.f)] w Q
  go_enter Tryd.func62, Tryd.ntmps62
  go_wp2_with (refine wpList_load_row rfl 57 _ rfl w.heap.size rfl 57 _ (0, 0) _ HS0.out Tryd.underlying57 rfl (by rw [size4, row4_size]) ?_)
  refine (len_any s.f _).mono ?_
  rintro e w2 ⟨rfl, hb2⟩
  have HS2 := Lib.hid (HS0.out.below hb2)
  have HW2 := Lib.hid (HW0.out.then hb2)
  have HK2 := Lib.hid (HK0.out.trans (keeps_below hb2))
  clear hb2 HS0 HW0 HK0
  generalize hln : (elems s.f).length = ln
  have HLN := Lib.hid hln
  clear hln
  by_cases h1 : ln = 1
  · subst h1
    obtain ⟨x, hx⟩ : ∃ x, elems s.f = [x] := List.length_eq_one_iff.1 HLN.out
    have hx6 := ((mem_elems s.f x).1 (by rw [hx]; simp)).1
    have HX := Lib.hid hx
    clear hx
    go_wp2_with (refine wpList_load_row rfl 57 _ rfl w.heap.size rfl 57 _ (0, 0) _ HS2.out Tryd.underlying57 rfl (by rw [size4, row4_size]) ?_)
    refine (least_any s.f _ (HT.out.below HW2.out.below)).mono ?_
    rintro e w3 ⟨rfl, hb3⟩
    have HW3 := Lib.hid (HW2.out.then hb3)
    have HK3 := Lib.hid (HK2.out.trans (keeps_below hb3))
    clear hb3 HS2 HW2 HK2
    rw [HX.out, leastV]
    go_wp2_with fail
    refine (one_nat sgA x hx6 HW3.out (by have := HM.out; omega)).mono ?_
    rintro e w4 ⟨rfl, hw4, hk4⟩
    have HW4 := Lib.hid hw4
    have HK4 := Lib.hid (HK3.out.trans hk4)
    clear hw4 hk4 HW3 HK3
    go_wp2_with fail
    refine bodyPost_ret (v := .tuple #[]) (results_none Tryd.results62 _ _ _) rfl (post_is HQ ?_)
    rw [setW, if_pos HLN.out, HX.out]
    exact ⟨rfl, HW4.out, HK4.out⟩
  have d1 : ((ln : Int) == 1) = false := by simp; omega
  go_wp2_with fail
  refine wp_region_held_drew (S := fun W' => HS W' w.heap.size s ∧ Below w2.heap.size w2 W') (by kernel_rfl) ⟨HS2.out, bl_drewN (Below.refl _ _) 1⟩ (fun hHeld => ?_)
  try simp only [List.getElem_toArray, List.getElem_cons_zero, List.getElem_cons_succ, Act.put, List.setIfInBounds_toArray, List.set_cons_zero, List.set_cons_succ]
  refine wpAnyH_take (i := 0) (v := encS s) rfl (by kernel_rfl) (by kernel_rfl) (by kernel_rfl) (fun _ _ _ h => h) (yields_set (by rfl) (.tmp 3) rfl w.heap.size rfl s.f (fun _ hw => hw.1)) hHeld ?_
  try simp only [List.getElem_toArray, List.getElem_cons_zero, List.getElem_cons_succ, Act.put, List.setIfInBounds_toArray, List.set_cons_zero, List.set_cons_succ]
  refine wpAnyH_ready (rs := [1]) (by kernel_rfl) (by simp) (AllReadyH.cons rfl (fun K hK => ?_) AllReadyH.nil)
  go_simp
  go_at_call 77
  refine (dot_any _).mono ?_
  rintro e w3 ⟨rfl, hb3⟩
  have hS1 : HS w3 w.heap.size s ∧ Below w2.heap.size w2 w3 := ⟨hHeld.1.below hb3, bl_trans hHeld.2 hb3⟩
  clear hHeld hb3
  unfold encS
  go_wp2_with fail
  refine hK.out _ _ hS1 (fun hHeld => ?_)
  clear hK K hS1
  have heq := eq_sets s dotS
  try simp only [List.getElem_toArray, List.getElem_cons_zero, List.getElem_cons_succ, Act.put, List.setIfInBounds_toArray, List.set_cons_zero, List.set_cons_succ]
  refine wpAnyH_take (i := 2) (v := ?vza2) rfl (by kernel_rfl) (by kernel_rfl) (by kernel_rfl) (fun _ _ _ h => h) (Or.inl ⟨by rfl, ?yza2⟩) hHeld ?rza2
  case yza2 => (intro wS hSw; clear hSw; go_simp; try (with_reducible rfl))
  try simp only [List.getElem_toArray, List.getElem_cons_zero, List.getElem_cons_succ, Act.put, List.setIfInBounds_toArray, List.set_cons_zero, List.set_cons_succ]
  clear heq
  refine wpAnyH_take (i := 3) (v := ?vza3) rfl (by kernel_rfl) (by kernel_rfl) (by kernel_rfl) (fun _ _ _ h => h) (Or.inl ⟨by rfl, ?yza3⟩) hHeld ?rza3
  case yza3 => (intro wS hSw; clear hSw; go_simp; try (with_reducible rfl))
  try simp only [List.getElem_toArray, List.getElem_cons_zero, List.getElem_cons_succ, Act.put, List.setIfInBounds_toArray, List.set_cons_zero, List.set_cons_succ]
  refine wpAnyH_done (by kernel_rfl) ?_ _
  have HS3 := Lib.hid hHeld.1
  have HW3 := Lib.hid (HW2.out.then hHeld.2)
  have HK3 := Lib.hid (HK2.out.trans (keeps_below hHeld.2))
  clear hHeld HS2 HW2 HK2
  by_cases hd : s = dotS
  · have dd : decide (s = dotS) = true := decide_eq_true hd
    have HD := Lib.hid hd
    clear hd
    go_wp2_with fail
    refine (put_any [46] HW3.out (by have := HM.out; simp; omega)).mono ?_
    rintro e w4 ⟨rfl, hw4, hk4⟩
    have HW4 := Lib.hid hw4
    have HK4 := Lib.hid (HK3.out.trans hk4)
    clear hw4 hk4 HW3 HK3
    go_wp2_with fail
    refine bodyPost_ret (v := .tuple #[]) (results_none Tryd.results62 _ _ _) rfl (post_is HQ ?_)
    rw [setW, HLN.out, if_neg h1, if_pos HD.out]
    exact ⟨rfl, HW4.out, HK4.out⟩
  have dd : decide (s = dotS) = false := decide_eq_false hd
  have HD := Lib.hid hd
  clear hd
  have hst := strW_len 256 s
  have hsn := strW_len 256 (notS s)
  by_cases hn : ln = 0 ∨ (128 < ln ∧ ln < 256)
  · rcases Nat.eq_zero_or_pos ln with h0 | h0
    · have HZ0 := Lib.hid h0
      subst h0
      go_wp2_with fail
      refine (put_any [91, 94] HW3.out (by have := HM.out; simp; omega)).mono ?_
      rintro e w4 ⟨rfl, hw4, hk4⟩
      have HS4 := Lib.hid (HS3.out.keeps hk4 (HW3.out.notSet HS3.out))
      have HW4 := Lib.hid hw4
      have HK4 := Lib.hid (HK3.out.trans hk4)
      clear hw4 hk4 HS3 HW3 HK3
      go_wp2_with (refine wpList_load_row rfl 57 _ rfl w.heap.size rfl 57 _ (0, 0) _ HS4.out Tryd.underlying57 rfl (by rw [size4, row4_size]) ?_)
      refine (not_is s _).mono ?_
      rintro e w5 ⟨rfl, hb5⟩
      have HW5 := Lib.hid (HW4.out.then hb5)
      have HK5 := Lib.hid (HK4.out.trans (keeps_below hb5))
      clear hb5 HW4 HK4
      go_wp2_with fail
      refine (stretches_any (notS s) HT.out HW5.out (by have := HM.out; simp; omega)).mono ?_
      rintro e w6 ⟨rfl, hw6, hk6⟩
      have HW6 := Lib.hid hw6
      have HK6 := Lib.hid (HK5.out.trans hk6)
      clear hw6 hk6 HW5 HK5
      go_wp2_with fail
      refine (put_any [93] HW6.out (by have := HM.out; simp; omega)).mono ?_
      rintro e w7 ⟨rfl, hw7, hk7⟩
      have HW7 := Lib.hid hw7
      have HK7 := Lib.hid (HK6.out.trans hk7)
      clear hw7 hk7 HW6 HK6
      go_wp2_with fail
      refine bodyPost_ret (v := .tuple #[]) (results_none Tryd.results62 _ _ _) rfl (post_is HQ ?_)
      rw [setW, HLN.out, if_neg h1, if_neg HD.out, if_pos (Or.inl rfl)]
      refine ⟨rfl, ?_, HK7.out⟩
      have := HW7.out
      simpa using this
    · have d0 : ((ln : Int) == 0) = false := by simp; omega
      have e1 : decide ((128 : Int) < (ln : Int)) = true := by simp; omega
      have e2 : decide ((ln : Int) < 256) = true := by simp; omega
      go_wp2_with fail
      refine (put_any [91, 94] HW3.out (by have := HM.out; simp; omega)).mono ?_
      rintro e w4 ⟨rfl, hw4, hk4⟩
      have HS4 := Lib.hid (HS3.out.keeps hk4 (HW3.out.notSet HS3.out))
      have HW4 := Lib.hid hw4
      have HK4 := Lib.hid (HK3.out.trans hk4)
      clear hw4 hk4 HS3 HW3 HK3
      go_wp2_with (refine wpList_load_row rfl 57 _ rfl w.heap.size rfl 57 _ (0, 0) _ HS4.out Tryd.underlying57 rfl (by rw [size4, row4_size]) ?_)
      refine (not_is s _).mono ?_
      rintro e w5 ⟨rfl, hb5⟩
      have HW5 := Lib.hid (HW4.out.then hb5)
      have HK5 := Lib.hid (HK4.out.trans (keeps_below hb5))
      clear hb5 HW4 HK4
      go_wp2_with fail
      refine (stretches_any (notS s) HT.out HW5.out (by have := HM.out; simp; omega)).mono ?_
      rintro e w6 ⟨rfl, hw6, hk6⟩
      have HW6 := Lib.hid hw6
      have HK6 := Lib.hid (HK5.out.trans hk6)
      clear hw6 hk6 HW5 HK5
      go_wp2_with fail
      refine (put_any [93] HW6.out (by have := HM.out; simp; omega)).mono ?_
      rintro e w7 ⟨rfl, hw7, hk7⟩
      have HW7 := Lib.hid hw7
      have HK7 := Lib.hid (HK6.out.trans hk7)
      clear hw7 hk7 HW6 HK6
      go_wp2_with fail
      refine bodyPost_ret (v := .tuple #[]) (results_none Tryd.results62 _ _ _) rfl (post_is HQ ?_)
      rw [setW, HLN.out, if_neg h1, if_neg HD.out, if_pos hn]
      refine ⟨rfl, ?_, HK7.out⟩
      have := HW7.out
      simpa using this
  · have d0 : ((ln : Int) == 0) = false := by simp; omega
    by_cases h8 : 128 < ln
    · have e1 : decide ((128 : Int) < (ln : Int)) = true := by simp; omega
      have e2 : decide ((ln : Int) < 256) = false := by simp; omega
      go_wp2_with fail
      refine (put_any [91] HW3.out (by have := HM.out; simp; omega)).mono ?_
      rintro e w4 ⟨rfl, hw4, hk4⟩
      have HS4 := Lib.hid (HS3.out.keeps hk4 (HW3.out.notSet HS3.out))
      have HW4 := Lib.hid hw4
      have HK4 := Lib.hid (HK3.out.trans hk4)
      clear hw4 hk4 HS3 HW3 HK3
      go_wp2_with (refine wpList_load_row rfl 57 _ rfl w.heap.size rfl 57 _ (0, 0) _ HS4.out Tryd.underlying57 rfl (by rw [size4, row4_size]) ?_)
      refine (stretches_any (s) HT.out HW4.out (by have := HM.out; simp; omega)).mono ?_
      rintro e w6 ⟨rfl, hw6, hk6⟩
      have HW6 := Lib.hid hw6
      have HK6 := Lib.hid (HK4.out.trans hk6)
      clear hw6 hk6 HW4 HK4
      go_wp2_with fail
      refine (put_any [93] HW6.out (by have := HM.out; simp; omega)).mono ?_
      rintro e w7 ⟨rfl, hw7, hk7⟩
      have HW7 := Lib.hid hw7
      have HK7 := Lib.hid (HK6.out.trans hk7)
      clear hw7 hk7 HW6 HK6
      go_wp2_with fail
      refine bodyPost_ret (v := .tuple #[]) (results_none Tryd.results62 _ _ _) rfl (post_is HQ ?_)
      rw [setW, HLN.out, if_neg h1, if_neg HD.out, if_neg hn]
      refine ⟨rfl, ?_, HK7.out⟩
      have := HW7.out
      simpa using this
    · have e1 : decide ((128 : Int) < (ln : Int)) = false := by simp; omega
      go_wp2_with fail
      refine (put_any [91] HW3.out (by have := HM.out; simp; omega)).mono ?_
      rintro e w4 ⟨rfl, hw4, hk4⟩
      have HS4 := Lib.hid (HS3.out.keeps hk4 (HW3.out.notSet HS3.out))
      have HW4 := Lib.hid hw4
      have HK4 := Lib.hid (HK3.out.trans hk4)
      clear hw4 hk4 HS3 HW3 HK3
      go_wp2_with (refine wpList_load_row rfl 57 _ rfl w.heap.size rfl 57 _ (0, 0) _ HS4.out Tryd.underlying57 rfl (by rw [size4, row4_size]) ?_)
      refine (stretches_any (s) HT.out HW4.out (by have := HM.out; simp; omega)).mono ?_
      rintro e w6 ⟨rfl, hw6, hk6⟩
      have HW6 := Lib.hid hw6
      have HK6 := Lib.hid (HK4.out.trans hk6)
      clear hw6 hk6 HW4 HK4
      go_wp2_with fail
      refine (put_any [93] HW6.out (by have := HM.out; simp; omega)).mono ?_
      rintro e w7 ⟨rfl, hw7, hk7⟩
      have HW7 := Lib.hid hw7
      have HK7 := Lib.hid (HK6.out.trans hk7)
      clear hw7 hk7 HW6 HK6
      go_wp2_with fail
      refine bodyPost_ret (v := .tuple #[]) (results_none Tryd.results62 _ _ _) rfl (post_is HQ ?_)
      rw [setW, HLN.out, if_neg h1, if_neg HD.out, if_neg hn]
      refine ⟨rfl, ?_, HK7.out⟩
      have := HW7.out
      simpa using this

end Go.Proofs.YteedmkokbapkgaaDoor
