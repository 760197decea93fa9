/- The classes of bytes: their comparison, and how they are sorted. It wants math/bits' table as it was laid. -/
import Derived.Test.YtcgfogdfcdndgaaGreatDoorDgEQ
import Derived.Test.YtcgfogdfcdndgaaGreatDoorSetIQ
import Derived.Test.YtcgfogdfcdndgaaGreatDoorSetFQ
import Derived.Test.YtcgfogdfcdndgaaGreatDoorSorts
set_option linter.unusedVariables false
set_option linter.unusedSimpArgs false
namespace Go.Proofs.YtcgfogdfcdndgaaGreatDoor
open Go.RowKit Go.Shelf
attribute [local go_sem] Oper.semAt_some

/-- New blocks alone, and draws. -/
structure Bg (w w' : World) : Prop where
  bl : Below w.heap.size w w'
  dr : w.drawn ≤ w'.drawn
theorem Bg.refl (w : World) : Bg w w := ⟨Below.refl _ _, Nat.le_refl _⟩
theorem Bg.alloc {w w' : World} (h : Bg w w') (o : Obj) : Bg w (w'.alloc o) := ⟨bl_alloc h.bl o, h.dr⟩
theorem Bg.trans {a b c : World} (h : Bg a b) (k : Bg b c) : Bg a c := ⟨bl_trans h.bl k.bl, Nat.le_trans h.dr k.dr⟩
theorem Bg.drew {w w' : World} (h : Bg w w') : Bg w w'.drew := ⟨bl_drewN h.bl 1, Nat.le_trans h.dr (Nat.le_add_right _ _)⟩
theorem Bg.form {w w' : World} (h : Bg w w') : ∃ q os, w' = Sort.grow (w.drewN q) os := by
  obtain ⟨⟨h1, h2, h3, h4, h5⟩, h6⟩ := h
  refine ⟨w'.drawn - w.drawn, w'.heap.extract w.heap.size w'.heap.size, ?_⟩
  obtain ⟨hp, tp, dr, os, out⟩ := w
  obtain ⟨hp', tp', dr', os', out'⟩ := w'
  simp only at h1 h2 h3 h4 h5 h6
  subst h1 h2 h3
  have e1 : dr' = dr + (dr' - dr) := by omega
  have e2 : hp' = hp ++ hp'.extract hp.size hp'.size := by
    apply Array.ext_getElem?
    intro i
    by_cases hi : i < hp.size
    · rw [Array.getElem?_append_left hi, h5 i hi]
    · rw [Array.getElem?_append_right (by omega), Array.getElem?_extract]
      by_cases hi2 : i < hp'.size
      · rw [if_pos (by omega), show hp.size + (i - hp.size) = i by omega]
      · rw [if_neg (by omega), Array.getElem?_eq_none (by omega)]
  unfold Sort.grow World.drewN
  simp only
  rw [← e2, ← e1]

def GotLx (w : World) (f : Nat → BitVec 64) (l : List Nat) (e : Ending) (w' : World) : Prop := e = .returned (leastV l) ∧ w' = w.alloc (.cells (row4 f) 51)
set_option maxHeartbeats 2000000 in
set_option maxRecDepth 20000 in
theorem leastX_none (f : Nat → BitVec 64) (he : elems f = []) (w : World) :
    Calls Tryz.prog 87 #[.agg (row4 f)] w (GotLx w f []) := by
  have hz := zero4
  rw [tab4_row] at hz
  have hs := same_sets ((elems_nil_iff f).1 he)
  have hA := Lib.hid (H4.new w f)
  clear he
  go_enter Tryz.func87, Tryz.ntmps87
  go_wp2_with (refine wpList_load_row rfl 51 _ rfl w.heap.size rfl 51 _ (0, 0) _ hA.out Tryz.underlying51 rfl (by rw [size4, row4_size]) ?_)
  exact bodyPost_ret (v := .tuple #[.int .u8 0, .bool false]) (by simp [results, Tryz.results87, go_sem]) rfl ⟨rfl, rfl⟩

set_option maxHeartbeats 2000000 in
set_option maxRecDepth 20000 in
theorem leastX_some (f : Nat → BitVec 64) (he : elems f ≠ []) (w : World) (hT : Tab w) :
    Calls Tryz.prog 87 #[.agg (row4 f)] w (GotLx w f (elems f)) := by
  have hz := zero4
  rw [tab4_row] at hz
  have hne : ¬ Eq4 f nilW := fun h => he ((elems_nil_iff f).2 h)
  have hs := other_sets hne
  have hA := Lib.hid (H4.new w f)
  have HN := Lib.hid hne
  have HT := Lib.hid hT
  clear he hne hT
  go_enter Tryz.func87, Tryz.ntmps87
  go_wp2_with (refine wpList_load_row rfl 51 _ rfl w.heap.size rfl 51 _ (0, 0) _ hA.out Tryz.underlying51 rfl (by rw [size4, row4_size]) ?_)
  clear hz hs
  go_loopw [4] (fun i wr => ∃ k : Nat, k < 4 ∧ i = .int .i64 k ∧ Hid (∀ j, j < k → f j = 0) ∧ H4 wr w.heap.size f ∧ Hid (wr = w.alloc (.cells (row4 f) 51))) (fun i _ => 4 - (intOf i).toNat)
  case atStart => exact ⟨0, by omega, rfl, Lib.hid (fun j hj => absurd hj (by omega)), hA.out, rfl⟩
  case round =>
    clear hA
    obtain ⟨k, hk, rfl, HZ, h1, hB⟩ := hrel
    have hc1 := h1.cell hk
    by_cases hq : f k = 0
    · have hx := word_zero hq
      have hk3 : k < 3 := by
        rcases Nat.lt_or_ge k 3 with h | h
        · exact h
        · exfalso
          apply HN.out
          intro j hj
          by_cases e : j = k
          · rw [e, hq]; rfl
          · exact HZ.out j (by omega)
      have HZ2 := Lib.hid (show ∀ j, j < k + 1 → f j = 0 from fun j hj => by
        by_cases e : j = k
        · rw [e, hq]
        · exact HZ.out j (by omega))
      have H1 := Lib.hid h1
      have HB := hB
      clear hq HZ h1 hB
      go_wp2
      exact ⟨⟨k + 1, by omega, by go_num, HZ2, H1.out, HB.out⟩, by simp [intOf]; omega⟩
    · have hx := word_some hq
      obtain ⟨l1, l2, l3⟩ := low_spec (f k) hq
      obtain ⟨l, hl, _⟩ := elems_least f k (low (f k)) hk l1 HZ.out l3 l2
      have HL := Lib.hid hl
      have HQ := Lib.hid hq
      have HB := hB
      have hc1' := hc1
      clear hl hq hB l2 l3 h1 HZ
      go_wp2_with fail
      refine (tz_any (f k) HQ.out _ (HT.out.below (HB.out ▸ bl_alloc (Below.refl w.heap.size w) _))).mono ?_
      rintro e w' ⟨rfl, rfl⟩
      obtain ⟨z, hz⟩ : ∃ z, low (f k) = z := ⟨_, rfl⟩
      rw [hz] at HL l1 ⊢
      clear hz
      go_wp2
      have e4 : (k : Int) * 64 + (z : Int) = ((64 * k + z : Nat) : Int) := by omega
      rw [e4]
      exact bodyPost_ret (v := .tuple #[.int .u8 ((64 * k + z : Nat) : Int), .bool true]) (by simp [results, Tryz.results87, go_sem]) rfl ⟨by rw [HL.out]; rfl, HB.out⟩
theorem leastX_any (f : Nat → BitVec 64) (w : World) (hT : Tab w) :
    Calls Tryz.prog 87 #[.agg (row4 f)] w (GotLx w f (elems f)) := by
  by_cases h : elems f = []
  · rw [h]
    exact leastX_none f h w
  · exact leastX_some f h w hT

def GotU (w : World) (n : Nat) (e : Ending) (w' : World) : Prop := e = .returned (.int .u8 (n : Int)) ∧ Bg w w'
theorem leastV_hd (l : List Nat) : ∃ b, leastV l = .tuple #[.int .u8 ((l.headD 0 : Nat) : Int), .bool b] := by
  cases l with
  | nil => exact ⟨false, rfl⟩
  | cons c l => exact ⟨true, rfl⟩
set_option maxHeartbeats 2000000 in
set_option maxRecDepth 20000 in
theorem dleast_any (f : Nat → BitVec 64) (w : World) (hT : Tab w) : Calls Tryz.prog 55 #[.agg (row4 f)] w (GotU w ((elems f).headD 0)) := by
  generalize hQ : GotU w ((elems f).headD 0) = Q
  have HQ := Lib.hid hQ
  have hA := Lib.hid (H4.new w f)
  have HC := Lib.hid (leastX_any f (w.alloc (.cells (row4 f) 51)) (hT.below (bl_alloc (Below.refl w.heap.size w) _)))
  obtain ⟨b, hb⟩ := leastV_hd (elems f)
  have hz := zero4
  rw [tab4_row] at hz
  clear hQ hT
  go_enter Tryz.func55, Tryz.ntmps55
  go_wp2_with (refine wpList_load_row rfl 51 _ rfl w.heap.size rfl 51 _ (0, 0) _ hA.out Tryz.underlying51 rfl (by rw [size4, row4_size]) ?_)
  refine HC.out.mono ?_
  rintro e w' ⟨rfl, rfl⟩
  rw [hb]
  generalize (elems f).headD 0 = z at *
  clear hb HC
  go_wp2_with fail
  exact post_is HQ ⟨rfl, ((Bg.refl w).alloc _).alloc _⟩
def cmpN (x y : Nat) : Int := if x < y then -1 else if y < x then 1 else 0
set_option maxRecDepth 20000 in
theorem nan_any (x : Nat) (w : World) : Calls Tryz.prog 105 #[.int .u8 (x : Int)] w fun e w' => e = .returned (.bool false) ∧ w' = w := by
  have hb : ((x : Int) != (x : Int)) = false := by simp
  go_enter Tryz.func105, Tryz.ntmps105
  go_wp2
  go_ret
  exact ⟨rfl, rfl⟩
set_option maxRecDepth 20000 in
set_option maxHeartbeats 1000000 in
theorem cmp_any (x y : Nat) (w : World) : Calls Tryz.prog 85 #[.int .u8 (x : Int), .int .u8 (y : Int)] w fun e w' => e = .returned (.int .i64 (cmpN x y)) ∧ w' = w := by
  rcases Nat.lt_trichotomy x y with h | h | h
  · have h1 : decide (x < y) = true := by simpa using h
    have e1 : cmpN x y = -1 := by unfold cmpN; rw [if_pos h]
    rw [e1]
    clear h e1
    go_enter Tryz.func85, Tryz.ntmps85
    go_wp2_with (go_at_call 105; refine (nan_any _ _).mono ?_; rintro e w' ⟨rfl, rfl⟩)
    go_ret
    exact ⟨rfl, rfl⟩
  · subst h
    have e1 : cmpN x x = 0 := by unfold cmpN; simp
    rw [e1]
    clear e1
    go_enter Tryz.func85, Tryz.ntmps85
    go_wp2_with (go_at_call 105; refine (nan_any _ _).mono ?_; rintro e w' ⟨rfl, rfl⟩)
    go_ret
    exact ⟨rfl, rfl⟩
  · have h1 : decide (x < y) = false := by simp; omega
    have h2 : decide (y < x) = true := by simpa using h
    have e1 : cmpN x y = 1 := by unfold cmpN; rw [if_neg (by omega), if_pos h]
    rw [e1]
    clear h e1
    go_enter Tryz.func85, Tryz.ntmps85
    go_wp2_with (go_at_call 105; refine (nan_any _ _).mono ?_; rintro e w' ⟨rfl, rfl⟩)
    go_ret
    exact ⟨rfl, rfl⟩
def GotCmp (w : World) (z : Int) (e : Ending) (w' : World) : Prop := e = .returned (.int .i64 z) ∧ Bg w w'
set_option maxHeartbeats 2000000 in
set_option maxRecDepth 20000 in
theorem cls1_any (f g : Nat → BitVec 64) (w : World) (hT : Tab w) : Calls Tryz.prog 84 #[.agg (row4 f), .agg (row4 g)] w (GotCmp w (cmpN ((elems f).headD 0) ((elems g).headD 0))) := by
  generalize hQ : GotCmp w (cmpN ((elems f).headD 0) ((elems g).headD 0)) = Q
  have HQ := Lib.hid hQ
  have hA := (H4.new w f).alloc (.cells (row4 g) 51)
  have hB := H4.new1 w (.cells (row4 f) 51) g
  have b0 := ((Bg.refl w).alloc (.cells (row4 f) 51)).alloc (.cells (row4 g) 51)
  have HT := Lib.hid hT
  have HLF := Lib.hid (fun w hT => dleast_any f w hT)
  have HLG := Lib.hid (fun w hT => dleast_any g w hT)
  generalize (elems f).headD 0 = zf at *
  generalize (elems g).headD 0 = zg at *
  clear hQ hT
  go_enter Tryz.func84, Tryz.ntmps84
  go_wp2_with fail
  generalize (w.alloc (.cells (row4 f) 51)).alloc (.cells (row4 g) 51) = w0 at *
  refine wp_region_held_drew (S := fun w' => H4 w' w.heap.size f ∧ H4 w' (w.heap.size + 1) g ∧ Bg w w') (by kernel_rfl) ⟨hA.drew, hB.drew, b0.drew⟩ (fun hHeld => ?_)
  clear hA hB b0
  generalize w0.drew = wd at *
  try simp only [zzA, zzB, zzC, Act.put, zzD, zzE, zzF]
  refine wpAnyH_take (i := 0) (v := .agg (row4 f)) rfl (by kernel_rfl) (by kernel_rfl) (by kernel_rfl) (fun _ _ _ h => h) (yields_set (by rfl) (.tmp 2) rfl w.heap.size rfl f (fun _ h => h.1)) hHeld ?_
  try simp only [zzA, zzB, zzC, Act.put, zzD, zzE, zzF]
  refine wpAnyH_take (i := 2) (v := .agg (row4 g)) rfl (by kernel_rfl) (by kernel_rfl) (by kernel_rfl) (fun _ _ _ h => h) (yields_set (by rfl) (.tmp 3) rfl (w.heap.size + 1) rfl g (fun _ h => h.2.1)) hHeld ?_
  try simp only [zzA, zzB, zzC, Act.put, zzD, zzE, zzF]
  refine wpAnyH_ready (rs := [1]) (by kernel_rfl) (by simp) (AllReadyH.cons rfl (fun K hK => ?_) AllReadyH.nil)
  go_simp
  go_at_call 55
  refine (HLF.out _ (HT.out.below hHeld.2.2.bl)).mono ?_
  rintro e w1 ⟨rfl, hb1⟩
  have hS1 := And.intro (hHeld.1.below hb1.bl) (And.intro (hHeld.2.1.below hb1.bl) (hHeld.2.2.trans hb1))
  clear hHeld hb1
  go_wp2_with fail
  refine hK.out _ _ hS1 (fun hHeld => ?_)
  clear hK K hS1
  try simp only [zzA, zzB, zzC, Act.put, zzD, zzE, zzF]
  refine wpAnyH_ready (rs := [3]) (by kernel_rfl) (by simp) (AllReadyH.cons rfl (fun K hK => ?_) AllReadyH.nil)
  go_simp
  go_at_call 55
  refine (HLG.out _ (HT.out.below hHeld.2.2.bl)).mono ?_
  rintro e w1 ⟨rfl, hb1⟩
  have hS1 := And.intro (hHeld.1.below hb1.bl) (And.intro (hHeld.2.1.below hb1.bl) (hHeld.2.2.trans hb1))
  clear hHeld hb1
  go_wp2_with fail
  refine hK.out _ _ hS1 (fun hHeld => ?_)
  clear hK K hS1
  try simp only [zzA, zzB, zzC, Act.put, zzD, zzE, zzF]
  refine wpAnyH_ready (rs := [4]) (by kernel_rfl) (by simp) (AllReadyH.cons rfl (fun K hK => ?_) AllReadyH.nil)
  go_simp
  go_at_call 85
  refine (cmp_any _ _ _).mono ?_
  rintro e w3 ⟨rfl, rfl⟩
  go_wp2_with fail
  refine hK.out _ _ hHeld (fun hHeld => ?_)
  clear hK K
  try simp only [zzA, zzB, zzC, Act.put, zzD, zzE, zzF]
  refine wpAnyH_take (i := 5) (v := ?vza5) rfl (by kernel_rfl) (by kernel_rfl) (by kernel_rfl) (fun _ _ _ h => h) (Or.inl ⟨by rfl, ?yza5⟩) hHeld ?rza5
  case yza5 => (intro wS hSw; clear hSw; go_simp; try (with_reducible rfl))
  try simp only [zzA, zzB, zzC, Act.put, zzD, zzE, zzF]
  refine wpAnyH_done (by kernel_rfl) ?_ _
  go_wp2_with fail
  exact post_is HQ ⟨rfl, hHeld.2.2⟩

/-! The sort. -/
instance : Inhabited S4 := ⟨nilS⟩
def cfS (s t : S4) : Int := cmpN (leS s) (leS t)
theorem cfS_lt (s t : S4) : ltOf cfS s t = decide (leS s < leS t) := by
  unfold ltOf cfS cmpN
  by_cases h : leS s < leS t
  · rw [if_pos h]; simp [h]
  · rw [if_neg h]
    split <;> simp [h]
theorem cfS_swo : Sort.SWO (ltOf cfS) where
  irrefl x := by rw [cfS_lt]; simp
  trans x y z h1 h2 := by rw [cfS_lt, decide_eq_true_iff] at *; omega
  ntrans x y z h1 h2 := by rw [cfS_lt, decide_eq_false_iff_not] at *; omega

end Go.Proofs.YtcgfogdfcdndgaaGreatDoor
