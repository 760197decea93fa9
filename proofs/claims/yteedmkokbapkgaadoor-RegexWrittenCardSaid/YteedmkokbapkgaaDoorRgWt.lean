/- The writer of patterns: stretches. Under: math/bits' table as it was laid. -/
import Derived.Test.YteedmkokbapkgaaDoorRgWs
set_option linter.unusedVariables false
set_option linter.unusedSimpArgs false
namespace Go.Proofs.YteedmkokbapkgaaDoor
open Go.RowKit

def lessS (s t : S4) : S4 := s4 (andW s.f (notW t.f))
theorem has_lessS (s t : S4) (c : Nat) (hc : c < 256) : hasS (lessS s t) c = (hasS s c && !hasS t c) := by
  rw [lessS, hasS_s4 _ _ hc, has_and, has_not]
  rfl
theorem has_spanS (a b c : Nat) (hc : c < 256) (hab : a ≤ b) : hasS (spanS a b) c = decide (a ≤ c ∧ c ≤ b) := by
  rw [spanS, hasS_s4 _ _ hc, has_all, has_nil, Bool.false_or]
  apply decide_eq_decide.2
  rw [List.mem_map]
  constructor
  · rintro ⟨d, hd, rfl⟩
    rw [List.mem_range] at hd
    omega
  · intro h
    exact ⟨c - a, by rw [List.mem_range]; omega, by omega⟩
theorem elems_less (s t : S4) (c : Nat) (l : List Nat) (h : elems s.f = c :: l) (ht : hasS t c = true) : (elems (lessS s t).f).length < (elems s.f).length := by
  have e : elems (lessS s t).f = (elems s.f).filter (fun d => has (lessS s t).f d) := by
    unfold elems
    rw [List.filter_filter]
    apply List.filter_congr
    intro d hd
    rw [List.mem_range] at hd
    have := has_lessS s t d hd
    unfold hasS at this
    rw [this]
    cases has s.f d <;> simp
  have hm : c ∈ elems s.f := by rw [h]; simp
  have hc := (mem_elems s.f c).1 hm
  rw [e]
  apply List.length_filter_lt_length_iff_exists.2
  refine ⟨c, hm, ?_⟩
  have := has_lessS s t c hc.1
  unfold hasS at this ht
  rw [this, ht]
  simp
def strW : Nat → S4 → List UInt8
  | 0, _ => []
  | k + 1, L => match elems L.f with
    | [] => []
    | c :: _ => oneW sgC (UInt8.ofNat c) ++ (if c < endE L c then 45 :: oneW sgC (UInt8.ofNat (endE L c)) else []) ++ strW k (lessS L (spanS c (endE L c)))
theorem strW_nil (k : Nat) (L : S4) (h : elems L.f = []) : strW k L = [] := by
  cases k with
  | zero => rfl
  | succ k => rw [strW, h]
theorem strW_cons (k : Nat) (L : S4) (c : Nat) (l : List Nat) (h : elems L.f = c :: l) : strW (k + 1) L = oneW sgC (UInt8.ofNat c) ++ (if c < endE L c then 45 :: oneW sgC (UInt8.ofNat (endE L c)) else []) ++ strW k (lessS L (spanS c (endE L c))) := by
  rw [strW, h]
theorem oneW_len (sg : List UInt8) (x : UInt8) : (oneW sg x).length ≤ 4 := by
  unfold oneW
  split
  · simp
  · split
    · simp
    · split <;> simp
theorem one_nat {W0 : World} {b : Nat} {A : Option Addr} {n c : Nat} {txt : List UInt8} {w : World} (sg : List UInt8) (x : Nat) (hx : x < 256) (h : WAt W0 b A n c txt w) (hm : txt.length ≤ 1000000000) :
    Calls Tryd.prog 76 #[.pointer (some ⟨b, 0, none⟩), .int .u8 (x : Int), .string ⟨sg.toArray⟩] w (GotW W0 b A n c w (txt ++ oneW sg (UInt8.ofNat x))) := by
  have e : ((UInt8.ofNat x).toNat : Int) = (x : Int) := by simp; omega
  rw [← e]
  exact one_w sg _ h hm
theorem span_nat (a b : Nat) (ha : a < 256) (hb : b < 256) (w : World) : Calls Tryd.prog 36 #[.int .u8 (a : Int), .int .u8 (b : Int)] w (GotS w (spanS a b)) :=
  (span_any a b ha hb w).mono fun e w' h => h.gotS rfl
theorem less_is (s t : S4) (w : World) : Calls Tryd.prog 95 #[encS s, encS t] w (GotS w (lessS s t)) :=
  (less_any s.f t.f w).mono fun e w' h => h.gotS rfl
theorem set_u8 : (57 : TypeId) ≠ 5 := by decide
theorem HS.keeps {b B : Nat} {w w' : World} {s : S4} (h : HS w B s) (hk : Keeps b w w') (hne : B ≠ b) : HS w' B s := hk B _ _ _ h set_u8 hne
theorem WAt.notSet {W0 : World} {b : Nat} {A : Option Addr} {n c : Nat} {txt : List UInt8} {w : World} (h : WAt W0 b A n c txt w) {B : Nat} {s : S4} (hs : HS w B s) : B ≠ b := by
  rintro rfl
  obtain ⟨v, h1, _⟩ := h.text
  have hs' : w.heap[B]? = some (.cells (row4 s.f) 57 (0, 0)) := hs
  rw [h1] at hs'
  injection hs' with hs'
  injection hs' with _ h2 _
  exact absurd h2 (by decide)
/-- A set that the call holds is turned. -/
theorem WAt.rowS {W0 : World} {b : Nat} {A : Option Addr} {n c : Nat} {txt : List UInt8} {w : World} (h : WAt W0 b A n c txt w) {B : Nat} {s : S4} (hs : HS w B s) (hB : W0.heap.size ≤ B) (cs : Array Value) : WAt W0 b A n c txt (w.setRow B cs) := by
  have hne := h.notSet hs
  obtain ⟨v, h1, h2⟩ := h.text
  refine ⟨⟨v, (setRow_other _ _ _ _ (fun e => hne e.symm)).trans h1, h2.kept (row := some B) ⟨rfl, rfl, rfl, by simp, fun k hk hn => setRow_other _ _ _ _ (fun e => hn (by rw [e]))⟩ (Or.inr ?_)⟩, h.base, bl_setRow h.below hB cs⟩
  rcases h2.2 with ⟨rfl, _⟩ | ⟨g, cap, cur, rfl, _, hgb, _⟩
  · simp [Value.ownBlock]
  · intro e
    obtain rfl : g = B := by simpa [Value.ownBlock] using e
    have hs' : w.heap[g]? = some (.cells (row4 s.f) 57 (0, 0)) := hs
    rw [hgb] at hs'
    injection hs' with hs'
    injection hs' with _ h2 _
    exact absurd h2.symm set_u8

theorem WAt.drewW {W0 : World} {b : Nat} {A : Option Addr} {n c : Nat} {txt : List UInt8} {w : World} (h : WAt W0 b A n c txt w) : WAt W0 b A n c txt w.drew :=
  h.then (bl_drewN (Below.refl _ _) 1)
theorem Keeps.rowS {b : Nat} {w w' : World} (h : Keeps b w w') (cs : Array Value) : Keeps b w (w'.setRow w.heap.size cs) := fun k ds t fr hk ht hb =>
  (setRow_other _ _ _ _ (by have := (Array.getElem?_eq_some_iff.1 hk).1; omega)).trans (h k ds t fr hk ht hb)
/-! stretches -/
set_option maxRecDepth 100000 in
set_option maxHeartbeats 4000000 in
theorem stretches_any {W0 : World} {b : Nat} {A : Option Addr} {n c : Nat} {txt : List UInt8} {w : World} (s : S4) (hT : Tab W0) (h : WAt W0 b A n c txt w) (hm : txt.length ≤ 900000000) :
    Calls Tryd.prog 78 #[.pointer (some ⟨b, 0, none⟩), encS s] w (GotW W0 b A n c w (txt ++ strW 256 s)) := by
  generalize hQ : GotW W0 b A n c w (txt ++ strW 256 s) = Q
  have HQ := Lib.hid hQ
  have HT := Lib.hid hT
  clear hQ hT
  have bA := bl_alloc (Below.refl w.heap.size w) (.cells (row4 s.f) 57)
  have hs0 : HS (w.alloc (.cells (row4 s.f) 57)) w.heap.size s := heap_alloc_new w _
  have hw0 := h.then bA
  have hk0 : Keeps b w (w.alloc (.cells (row4 s.f) 57)) := keeps_below bA
  have hbl := h.lt
  have hsz := h.below.size
  have hle : (elems s.f).length ≤ 256 := by
    unfold elems
    exact Nat.le_trans (List.length_filter_le _ _) (by simp)
  have HM := Lib.hid hm
  have HS0 := Lib.hid hs0
  have HW0 := Lib.hid hw0
  have HK0 := Lib.hid hk0
  have HLE := Lib.hid hle
  clear h hs0 hw0 hk0 bA hm hle
  show Calls Tryd.prog 78 #[.pointer (some ⟨b, 0, none⟩), .agg (row4 s.f)] w Q
  go_enter Tryd.func78, Tryd.ntmps78
  go_wp2_with (refine wpList_load_row rfl 57 _ rfl w.heap.size rfl 57 _ (0, 0) _ HS0.out Tryd.underlying57 rfl (by rw [size4, row4_size]) ?_)
  refine (least_any s.f _ (HT.out.below HW0.out.below)).mono ?_
  rintro e w2 ⟨rfl, hb2⟩
  have HS2 := Lib.hid (HS0.out.below hb2)
  have HW2 := Lib.hid (HW0.out.then hb2)
  have HK2 := Lib.hid (HK0.out.trans (keeps_below hb2))
  clear hb2 HS0 HW0 HK0
  rw [leastV_eq]
  go_wp2_with fail
  go_loopg [4, 5] 257 (fun k v4 v5 wr => ∃ (L : S4) (cur : List UInt8), Hid ((elems L.f).length < k) ∧ v4 = hdV (elems L.f) ∧ v5 = isV (elems L.f) ∧ Hid (k ≤ 257) ∧ Hid (cur.length + 10 * k ≤ 900002570) ∧ Hid (txt ++ strW 256 s = cur ++ strW (k - 1) L) ∧ HS wr w.heap.size L ∧ WAt W0 b A n c cur wr ∧ Keeps b w wr)
  case atStart => exact ⟨s, txt, by have := HLE.out; unfold Hid; omega, rfl, rfl, by unfold Hid; omega, by have := HM.out; unfold Hid; omega, rfl, HS2.out, HW2.out, HK2.out⟩
  case round =>
    clear HS2 HW2 HK2 HLE
    obtain ⟨L, cur, HLN, rfl, rfl, HK257, HCL, HEQ, hs, hw, hk⟩ := hrel
    obtain ⟨f, rfl⟩ : ∃ f, gk = f + 1 := ⟨gk - 1, by have := HLN.out; omega⟩
    have HS1 := Lib.hid hs
    have HW1 := Lib.hid hw
    have HK1 := Lib.hid hk
    clear hs hw hk
    cases he : elems L.f with
    | nil =>
      have HE := Lib.hid he
      clear he
      rw [isV]
      go_wp2_with fail
      refine bodyPost_ret (v := .tuple #[]) (results_none Tryd.results78 _ _ _) rfl (post_is HQ ?_)
      rw [HEQ.out, strW_nil _ _ HE.out, List.append_nil]
      exact ⟨rfl, HW1.out, HK1.out⟩
    | cons x l =>
      have hx := ((mem_elems L.f x).1 (by rw [he]; simp)).1
      have hl : (elems L.f).length < f + 1 := HLN.out
      have hf : 0 < f := by rw [he] at hl; simp at hl; omega
      obtain ⟨f, rfl⟩ : ∃ g, f = g + 1 := ⟨f - 1, by omega⟩
      have HE := Lib.hid he
      clear he hl hf
      rw [isV, hdV]
      have hxe := endE_le L x
      have hel := endE_lt L x hx
      generalize hy : endE L x = y at *
      have HY := Lib.hid hy
      clear hy
      go_wp2_with (refine wpList_load_row rfl 57 _ rfl w.heap.size rfl 57 _ (0, 0) _ HS1.out Tryd.underlying57 rfl (by rw [size4, row4_size]) ?_)
      refine (end_any L x hx _).mono ?_
      rintro e w3 ⟨rfl, hb3⟩
      rw [HY.out]
      have HS3 := Lib.hid (HS1.out.below hb3)
      have HW3 := Lib.hid (HW1.out.then hb3)
      have HK3 := Lib.hid (HK1.out.trans (keeps_below hb3))
      clear hb3 HS1 HW1 HK1
      go_wp2_with fail
      refine (one_nat sgC x hx HW3.out (by have := HCL.out; omega)).mono ?_
      rintro e w4 ⟨rfl, hw4, hk4⟩
      have HS4 := Lib.hid (HS3.out.keeps hk4 (HW3.out.notSet HS3.out))
      have HW4 := Lib.hid hw4
      have HK4 := Lib.hid (HK3.out.trans hk4)
      clear hw4 hk4 HS3 HW3 HK3
      have hl1 := oneW_len sgC (UInt8.ofNat x)
      have hl2 := oneW_len sgC (UInt8.ofNat y)
      by_cases hxy : x < y
      · have d1 : decide ((x : Int) < (y : Int)) = true := by simp; omega
        go_wp2_with fail
        refine (put_any [45] HW4.out (by have := HCL.out; simp; omega)).mono ?_
        rintro e w5 ⟨rfl, hw5, hk5⟩
        have HS5 := Lib.hid (HS4.out.keeps hk5 (HW4.out.notSet HS4.out))
        have HW5 := Lib.hid hw5
        have HK5 := Lib.hid (HK4.out.trans hk5)
        clear hw5 hk5 HS4 HW4 HK4
        go_wp2_with fail
        refine (one_nat sgC y hel HW5.out (by have := HCL.out; simp; omega)).mono ?_
        rintro e w6 ⟨rfl, hw6, hk6⟩
        have HS6 := Lib.hid (HS5.out.keeps hk6 (HW5.out.notSet HS5.out))
        have HW6 := Lib.hid hw6
        have HK6 := Lib.hid (HK5.out.trans hk6)
        clear hw6 hk6 HS5 HW5 HK5
        go_wp2_with fail
        refine wp_region_held_drew (S := fun _ => True) (by kernel_rfl) trivial (fun hHeld => ?_)
        try simp only [List.getElem_toArray, List.getElem_cons_zero, List.getElem_cons_succ, Act.put, List.setIfInBounds_toArray, List.set_cons_zero, List.set_cons_succ]
        refine wpAnyH_take (i := 1) (v := .int .u8 (x : Int)) rfl (by kernel_rfl) (by kernel_rfl) (by kernel_rfl) (fun _ _ _ h => h) (.inl ⟨by rfl, fun _ _ => by rfl⟩) trivial ?_
        try simp only [List.getElem_toArray, List.getElem_cons_zero, List.getElem_cons_succ, Act.put, List.setIfInBounds_toArray, List.set_cons_zero, List.set_cons_succ]
        refine wpAnyH_take (i := 2) (v := .int .u8 (y : Int)) rfl (by kernel_rfl) (by kernel_rfl) (by kernel_rfl) (fun _ _ _ h => h) (.inl ⟨by rfl, fun _ _ => by rfl⟩) trivial ?_
        try simp only [List.getElem_toArray, List.getElem_cons_zero, List.getElem_cons_succ, Act.put, List.setIfInBounds_toArray, List.set_cons_zero, List.set_cons_succ]
        refine wpAnyH_ready (rs := [0, 3]) (by kernel_rfl) (by simp) (AllReadyH.cons rfl (fun K hK => ?_) (AllReadyH.cons rfl (fun K hK => ?_) AllReadyH.nil))
        · rw [if_pos (by rfl)]
          refine wp_load_row 57 _ rfl w.heap.size rfl 57 _ (0, 0) _ HS6.out Tryd.underlying57 rfl (by rw [size4, row4_size]) ?_
          refine hK.out _ _ trivial (fun _ => ?_)
          clear hK K
          try simp only [List.getElem_toArray, List.getElem_cons_zero, List.getElem_cons_succ, Act.put, List.setIfInBounds_toArray, List.set_cons_zero, List.set_cons_succ]
          refine wpAnyH_ready (rs := [3]) (by kernel_rfl) (by simp) (AllReadyH.cons rfl (fun K hK => ?_) AllReadyH.nil)
          rw [if_pos (by rfl)]
          go_simp
          go_at_call 36
          refine (span_nat x y hx hel _).mono ?_
          rintro e w7 ⟨rfl, hb7⟩
          have HS7 := Lib.hid ((show HS w6.drew w.heap.size L from HS6.out).below hb7)
          have HW7 := Lib.hid ((show WAt W0 b A n c _ w6.drew from HW6.out.drewW).then hb7)
          have HK7 := Lib.hid ((show Keeps b w w6.drew from HK6.out).trans (keeps_below hb7))
          clear hb7 HS6 HW6 HK6
          unfold encS
          go_wp2_with fail
          refine hK.out _ _ trivial (fun _ => ?_)
          clear hK K
          try simp only [List.getElem_toArray, List.getElem_cons_zero, List.getElem_cons_succ, Act.put, List.setIfInBounds_toArray, List.set_cons_zero, List.set_cons_succ]
          refine wpAnyH_ready (rs := [4]) (by kernel_rfl) (by simp) (AllReadyH.cons rfl (fun K hK => ?_) AllReadyH.nil)
          rw [if_pos (by rfl)]
          go_simp
          go_at_call 95
          refine (less_is L (spanS x y) _).mono ?_
          rintro e w8 ⟨rfl, hb8⟩
          have s8 := HS7.out.below hb8
          have HS9 := Lib.hid (s8.laid (lessS L (spanS x y)))
          have HW9 := Lib.hid ((HW7.out.then hb8).rowS s8 hsz (row4 (lessS L (spanS x y)).f))
          have HK9 := Lib.hid (show Keeps b w (w8.setRow w.heap.size (row4 (lessS L (spanS x y)).f)) from (HK7.out.trans (keeps_below hb8)).rowS _)
          have HS8 := Lib.hid s8
          clear hb8 s8 HS7 HW7 HK7
          unfold encS
          go_wp2_with fail
          refine hK.out _ _ trivial (fun _ => ?_)
          clear hK K
          try simp only [List.getElem_toArray, List.getElem_cons_zero, List.getElem_cons_succ, Act.put, List.setIfInBounds_toArray, List.set_cons_zero, List.set_cons_succ]
          refine wpAnyH_ready (rs := [5]) (by kernel_rfl) (by simp) (AllReadyH.cons rfl (fun K hK => ?_) AllReadyH.nil)
          rw [if_pos (by rfl)]
          refine wp_store_row 57 _ _ rfl w.heap.size _ rfl rfl 57 _ HS8.out (by rw [size4, row4_size]) (by rw [row4_size, row4_size]) (row4_one _) ?_
          refine hK.out _ _ trivial (fun _ => ?_)
          clear hK K
          refine wpAnyH_done (by kernel_rfl) ?_ _
          clear HS8
          generalize w8.setRow w.heap.size (row4 (lessS L (spanS x y)).f) = w9 at *
          go_wp2_with (refine wpList_load_row rfl 57 _ rfl w.heap.size rfl 57 _ (0, 0) _ HS9.out Tryd.underlying57 rfl (by rw [size4, row4_size]) ?_)
          refine (least_any (lessS L (spanS x y)).f _ (HT.out.below HW9.out.below)).mono ?_
          rintro e w10 ⟨rfl, hb10⟩
          have s10 := HS9.out.below hb10
          have W10 := HW9.out.then hb10
          have k10 := HK9.out.trans (keeps_below hb10)
          have HS10 := Lib.hid s10
          have HW10 := Lib.hid W10
          have HK10 := Lib.hid k10
          clear hb10 s10 W10 k10 HS9 HW9 HK9
          rw [leastV_eq]
          go_wp2_with fail
          go_roundg (f + 1)
          case measure => omega
          case rel =>
            refine ⟨lessS L (spanS x y), cur ++ oneW sgC (UInt8.ofNat x) ++ [45] ++ oneW sgC (UInt8.ofNat y), ?_, rfl, rfl, ?_, ?_, ?_, HS10.out, HW10.out, HK10.out⟩
            · have h1 := elems_less L (spanS x y) x l HE.out (by rw [has_spanS x y x hx hxe]; simp; omega)
              have h2 := HLN.out
              unfold Hid
              omega
            · have := HK257.out
              unfold Hid
              omega
            · have := HCL.out
              unfold Hid
              simp
              omega
            · unfold Hid
              rw [HEQ.out]
              show cur ++ strW (f + 1) L = _ ++ strW f _
              rw [strW_cons f L x l HE.out, HY.out]
              first | rw [if_pos hxy] | rw [if_neg hxy]
              simp
        · rw [if_pos (by rfl)]
          go_simp
          go_at_call 36
          refine (span_nat x y hx hel _).mono ?_
          rintro e w7 ⟨rfl, hb7⟩
          have HS7 := Lib.hid ((show HS w6.drew w.heap.size L from HS6.out).below hb7)
          have HW7 := Lib.hid ((show WAt W0 b A n c _ w6.drew from HW6.out.drewW).then hb7)
          have HK7 := Lib.hid ((show Keeps b w w6.drew from HK6.out).trans (keeps_below hb7))
          clear hb7 HS6 HW6 HK6
          unfold encS
          go_wp2_with fail
          refine hK.out _ _ trivial (fun _ => ?_)
          clear hK K
          try simp only [List.getElem_toArray, List.getElem_cons_zero, List.getElem_cons_succ, Act.put, List.setIfInBounds_toArray, List.set_cons_zero, List.set_cons_succ]
          refine wpAnyH_ready (rs := [0]) (by kernel_rfl) (by simp) (AllReadyH.cons rfl (fun K hK => ?_) AllReadyH.nil)
          rw [if_pos (by rfl)]
          refine wp_load_row 57 _ rfl w.heap.size rfl 57 _ (0, 0) _ HS7.out Tryd.underlying57 rfl (by rw [size4, row4_size]) ?_
          refine hK.out _ _ trivial (fun _ => ?_)
          clear hK K
          try simp only [List.getElem_toArray, List.getElem_cons_zero, List.getElem_cons_succ, Act.put, List.setIfInBounds_toArray, List.set_cons_zero, List.set_cons_succ]
          refine wpAnyH_ready (rs := [4]) (by kernel_rfl) (by simp) (AllReadyH.cons rfl (fun K hK => ?_) AllReadyH.nil)
          rw [if_pos (by rfl)]
          go_simp
          go_at_call 95
          refine (less_is L (spanS x y) _).mono ?_
          rintro e w8 ⟨rfl, hb8⟩
          have s8 := HS7.out.below hb8
          have HS9 := Lib.hid (s8.laid (lessS L (spanS x y)))
          have HW9 := Lib.hid ((HW7.out.then hb8).rowS s8 hsz (row4 (lessS L (spanS x y)).f))
          have HK9 := Lib.hid (show Keeps b w (w8.setRow w.heap.size (row4 (lessS L (spanS x y)).f)) from (HK7.out.trans (keeps_below hb8)).rowS _)
          have HS8 := Lib.hid s8
          clear hb8 s8 HS7 HW7 HK7
          unfold encS
          go_wp2_with fail
          refine hK.out _ _ trivial (fun _ => ?_)
          clear hK K
          try simp only [List.getElem_toArray, List.getElem_cons_zero, List.getElem_cons_succ, Act.put, List.setIfInBounds_toArray, List.set_cons_zero, List.set_cons_succ]
          refine wpAnyH_ready (rs := [5]) (by kernel_rfl) (by simp) (AllReadyH.cons rfl (fun K hK => ?_) AllReadyH.nil)
          rw [if_pos (by rfl)]
          refine wp_store_row 57 _ _ rfl w.heap.size _ rfl rfl 57 _ HS8.out (by rw [size4, row4_size]) (by rw [row4_size, row4_size]) (row4_one _) ?_
          refine hK.out _ _ trivial (fun _ => ?_)
          clear hK K
          refine wpAnyH_done (by kernel_rfl) ?_ _
          clear HS8
          generalize w8.setRow w.heap.size (row4 (lessS L (spanS x y)).f) = w9 at *
          go_wp2_with (refine wpList_load_row rfl 57 _ rfl w.heap.size rfl 57 _ (0, 0) _ HS9.out Tryd.underlying57 rfl (by rw [size4, row4_size]) ?_)
          refine (least_any (lessS L (spanS x y)).f _ (HT.out.below HW9.out.below)).mono ?_
          rintro e w10 ⟨rfl, hb10⟩
          have s10 := HS9.out.below hb10
          have W10 := HW9.out.then hb10
          have k10 := HK9.out.trans (keeps_below hb10)
          have HS10 := Lib.hid s10
          have HW10 := Lib.hid W10
          have HK10 := Lib.hid k10
          clear hb10 s10 W10 k10 HS9 HW9 HK9
          rw [leastV_eq]
          go_wp2_with fail
          go_roundg (f + 1)
          case measure => omega
          case rel =>
            refine ⟨lessS L (spanS x y), cur ++ oneW sgC (UInt8.ofNat x) ++ [45] ++ oneW sgC (UInt8.ofNat y), ?_, rfl, rfl, ?_, ?_, ?_, HS10.out, HW10.out, HK10.out⟩
            · have h1 := elems_less L (spanS x y) x l HE.out (by rw [has_spanS x y x hx hxe]; simp; omega)
              have h2 := HLN.out
              unfold Hid
              omega
            · have := HK257.out
              unfold Hid
              omega
            · have := HCL.out
              unfold Hid
              simp
              omega
            · unfold Hid
              rw [HEQ.out]
              show cur ++ strW (f + 1) L = _ ++ strW f _
              rw [strW_cons f L x l HE.out, HY.out]
              first | rw [if_pos hxy] | rw [if_neg hxy]
              simp
      · have d1 : decide ((x : Int) < (y : Int)) = false := by simp; omega
        go_wp2_with fail
        refine wp_region_held_drew (S := fun _ => True) (by kernel_rfl) trivial (fun hHeld => ?_)
        try simp only [List.getElem_toArray, List.getElem_cons_zero, List.getElem_cons_succ, Act.put, List.setIfInBounds_toArray, List.set_cons_zero, List.set_cons_succ]
        refine wpAnyH_take (i := 1) (v := .int .u8 (x : Int)) rfl (by kernel_rfl) (by kernel_rfl) (by kernel_rfl) (fun _ _ _ h => h) (.inl ⟨by rfl, fun _ _ => by rfl⟩) trivial ?_
        try simp only [List.getElem_toArray, List.getElem_cons_zero, List.getElem_cons_succ, Act.put, List.setIfInBounds_toArray, List.set_cons_zero, List.set_cons_succ]
        refine wpAnyH_take (i := 2) (v := .int .u8 (y : Int)) rfl (by kernel_rfl) (by kernel_rfl) (by kernel_rfl) (fun _ _ _ h => h) (.inl ⟨by rfl, fun _ _ => by rfl⟩) trivial ?_
        try simp only [List.getElem_toArray, List.getElem_cons_zero, List.getElem_cons_succ, Act.put, List.setIfInBounds_toArray, List.set_cons_zero, List.set_cons_succ]
        refine wpAnyH_ready (rs := [0, 3]) (by kernel_rfl) (by simp) (AllReadyH.cons rfl (fun K hK => ?_) (AllReadyH.cons rfl (fun K hK => ?_) AllReadyH.nil))
        · rw [if_pos (by rfl)]
          refine wp_load_row 57 _ rfl w.heap.size rfl 57 _ (0, 0) _ HS4.out Tryd.underlying57 rfl (by rw [size4, row4_size]) ?_
          refine hK.out _ _ trivial (fun _ => ?_)
          clear hK K
          try simp only [List.getElem_toArray, List.getElem_cons_zero, List.getElem_cons_succ, Act.put, List.setIfInBounds_toArray, List.set_cons_zero, List.set_cons_succ]
          refine wpAnyH_ready (rs := [3]) (by kernel_rfl) (by simp) (AllReadyH.cons rfl (fun K hK => ?_) AllReadyH.nil)
          rw [if_pos (by rfl)]
          go_simp
          go_at_call 36
          refine (span_nat x y hx hel _).mono ?_
          rintro e w7 ⟨rfl, hb7⟩
          have HS7 := Lib.hid ((show HS w4.drew w.heap.size L from HS4.out).below hb7)
          have HW7 := Lib.hid ((show WAt W0 b A n c _ w4.drew from HW4.out.drewW).then hb7)
          have HK7 := Lib.hid ((show Keeps b w w4.drew from HK4.out).trans (keeps_below hb7))
          clear hb7 HS4 HW4 HK4
          unfold encS
          go_wp2_with fail
          refine hK.out _ _ trivial (fun _ => ?_)
          clear hK K
          try simp only [List.getElem_toArray, List.getElem_cons_zero, List.getElem_cons_succ, Act.put, List.setIfInBounds_toArray, List.set_cons_zero, List.set_cons_succ]
          refine wpAnyH_ready (rs := [4]) (by kernel_rfl) (by simp) (AllReadyH.cons rfl (fun K hK => ?_) AllReadyH.nil)
          rw [if_pos (by rfl)]
          go_simp
          go_at_call 95
          refine (less_is L (spanS x y) _).mono ?_
          rintro e w8 ⟨rfl, hb8⟩
          have s8 := HS7.out.below hb8
          have HS9 := Lib.hid (s8.laid (lessS L (spanS x y)))
          have HW9 := Lib.hid ((HW7.out.then hb8).rowS s8 hsz (row4 (lessS L (spanS x y)).f))
          have HK9 := Lib.hid (show Keeps b w (w8.setRow w.heap.size (row4 (lessS L (spanS x y)).f)) from (HK7.out.trans (keeps_below hb8)).rowS _)
          have HS8 := Lib.hid s8
          clear hb8 s8 HS7 HW7 HK7
          unfold encS
          go_wp2_with fail
          refine hK.out _ _ trivial (fun _ => ?_)
          clear hK K
          try simp only [List.getElem_toArray, List.getElem_cons_zero, List.getElem_cons_succ, Act.put, List.setIfInBounds_toArray, List.set_cons_zero, List.set_cons_succ]
          refine wpAnyH_ready (rs := [5]) (by kernel_rfl) (by simp) (AllReadyH.cons rfl (fun K hK => ?_) AllReadyH.nil)
          rw [if_pos (by rfl)]
          refine wp_store_row 57 _ _ rfl w.heap.size _ rfl rfl 57 _ HS8.out (by rw [size4, row4_size]) (by rw [row4_size, row4_size]) (row4_one _) ?_
          refine hK.out _ _ trivial (fun _ => ?_)
          clear hK K
          refine wpAnyH_done (by kernel_rfl) ?_ _
          clear HS8
          generalize w8.setRow w.heap.size (row4 (lessS L (spanS x y)).f) = w9 at *
          go_wp2_with (refine wpList_load_row rfl 57 _ rfl w.heap.size rfl 57 _ (0, 0) _ HS9.out Tryd.underlying57 rfl (by rw [size4, row4_size]) ?_)
          refine (least_any (lessS L (spanS x y)).f _ (HT.out.below HW9.out.below)).mono ?_
          rintro e w10 ⟨rfl, hb10⟩
          have s10 := HS9.out.below hb10
          have W10 := HW9.out.then hb10
          have k10 := HK9.out.trans (keeps_below hb10)
          have HS10 := Lib.hid s10
          have HW10 := Lib.hid W10
          have HK10 := Lib.hid k10
          clear hb10 s10 W10 k10 HS9 HW9 HK9
          rw [leastV_eq]
          go_wp2_with fail
          go_roundg (f + 1)
          case measure => omega
          case rel =>
            refine ⟨lessS L (spanS x y), cur ++ oneW sgC (UInt8.ofNat x), ?_, rfl, rfl, ?_, ?_, ?_, HS10.out, HW10.out, HK10.out⟩
            · have h1 := elems_less L (spanS x y) x l HE.out (by rw [has_spanS x y x hx hxe]; simp; omega)
              have h2 := HLN.out
              unfold Hid
              omega
            · have := HK257.out
              unfold Hid
              omega
            · have := HCL.out
              unfold Hid
              simp
              omega
            · unfold Hid
              rw [HEQ.out]
              show cur ++ strW (f + 1) L = _ ++ strW f _
              rw [strW_cons f L x l HE.out, HY.out]
              first | rw [if_pos hxy] | rw [if_neg hxy]
              simp
        · rw [if_pos (by rfl)]
          go_simp
          go_at_call 36
          refine (span_nat x y hx hel _).mono ?_
          rintro e w7 ⟨rfl, hb7⟩
          have HS7 := Lib.hid ((show HS w4.drew w.heap.size L from HS4.out).below hb7)
          have HW7 := Lib.hid ((show WAt W0 b A n c _ w4.drew from HW4.out.drewW).then hb7)
          have HK7 := Lib.hid ((show Keeps b w w4.drew from HK4.out).trans (keeps_below hb7))
          clear hb7 HS4 HW4 HK4
          unfold encS
          go_wp2_with fail
          refine hK.out _ _ trivial (fun _ => ?_)
          clear hK K
          try simp only [List.getElem_toArray, List.getElem_cons_zero, List.getElem_cons_succ, Act.put, List.setIfInBounds_toArray, List.set_cons_zero, List.set_cons_succ]
          refine wpAnyH_ready (rs := [0]) (by kernel_rfl) (by simp) (AllReadyH.cons rfl (fun K hK => ?_) AllReadyH.nil)
          rw [if_pos (by rfl)]
          refine wp_load_row 57 _ rfl w.heap.size rfl 57 _ (0, 0) _ HS7.out Tryd.underlying57 rfl (by rw [size4, row4_size]) ?_
          refine hK.out _ _ trivial (fun _ => ?_)
          clear hK K
          try simp only [List.getElem_toArray, List.getElem_cons_zero, List.getElem_cons_succ, Act.put, List.setIfInBounds_toArray, List.set_cons_zero, List.set_cons_succ]
          refine wpAnyH_ready (rs := [4]) (by kernel_rfl) (by simp) (AllReadyH.cons rfl (fun K hK => ?_) AllReadyH.nil)
          rw [if_pos (by rfl)]
          go_simp
          go_at_call 95
          refine (less_is L (spanS x y) _).mono ?_
          rintro e w8 ⟨rfl, hb8⟩
          have s8 := HS7.out.below hb8
          have HS9 := Lib.hid (s8.laid (lessS L (spanS x y)))
          have HW9 := Lib.hid ((HW7.out.then hb8).rowS s8 hsz (row4 (lessS L (spanS x y)).f))
          have HK9 := Lib.hid (show Keeps b w (w8.setRow w.heap.size (row4 (lessS L (spanS x y)).f)) from (HK7.out.trans (keeps_below hb8)).rowS _)
          have HS8 := Lib.hid s8
          clear hb8 s8 HS7 HW7 HK7
          unfold encS
          go_wp2_with fail
          refine hK.out _ _ trivial (fun _ => ?_)
          clear hK K
          try simp only [List.getElem_toArray, List.getElem_cons_zero, List.getElem_cons_succ, Act.put, List.setIfInBounds_toArray, List.set_cons_zero, List.set_cons_succ]
          refine wpAnyH_ready (rs := [5]) (by kernel_rfl) (by simp) (AllReadyH.cons rfl (fun K hK => ?_) AllReadyH.nil)
          rw [if_pos (by rfl)]
          refine wp_store_row 57 _ _ rfl w.heap.size _ rfl rfl 57 _ HS8.out (by rw [size4, row4_size]) (by rw [row4_size, row4_size]) (row4_one _) ?_
          refine hK.out _ _ trivial (fun _ => ?_)
          clear hK K
          refine wpAnyH_done (by kernel_rfl) ?_ _
          clear HS8
          generalize w8.setRow w.heap.size (row4 (lessS L (spanS x y)).f) = w9 at *
          go_wp2_with (refine wpList_load_row rfl 57 _ rfl w.heap.size rfl 57 _ (0, 0) _ HS9.out Tryd.underlying57 rfl (by rw [size4, row4_size]) ?_)
          refine (least_any (lessS L (spanS x y)).f _ (HT.out.below HW9.out.below)).mono ?_
          rintro e w10 ⟨rfl, hb10⟩
          have s10 := HS9.out.below hb10
          have W10 := HW9.out.then hb10
          have k10 := HK9.out.trans (keeps_below hb10)
          have HS10 := Lib.hid s10
          have HW10 := Lib.hid W10
          have HK10 := Lib.hid k10
          clear hb10 s10 W10 k10 HS9 HW9 HK9
          rw [leastV_eq]
          go_wp2_with fail
          go_roundg (f + 1)
          case measure => omega
          case rel =>
            refine ⟨lessS L (spanS x y), cur ++ oneW sgC (UInt8.ofNat x), ?_, rfl, rfl, ?_, ?_, ?_, HS10.out, HW10.out, HK10.out⟩
            · have h1 := elems_less L (spanS x y) x l HE.out (by rw [has_spanS x y x hx hxe]; simp; omega)
              have h2 := HLN.out
              unfold Hid
              omega
            · have := HK257.out
              unfold Hid
              omega
            · have := HCL.out
              unfold Hid
              simp
              omega
            · unfold Hid
              rw [HEQ.out]
              show cur ++ strW (f + 1) L = _ ++ strW f _
              rw [strW_cons f L x l HE.out, HY.out]
              first | rw [if_pos hxy] | rw [if_neg hxy]
              simp

end Go.Proofs.YteedmkokbapkgaaDoor
