/- The maker of machines: stateOf: the number of the state that is some of the net's, and what is reached from them for nothing. -/
import Derived.Test.YtcgfogdfcdndgaaGreatDoorDgDQ
set_option linter.unusedVariables false
set_option linter.unusedSimpArgs false
namespace Go.Proofs.YtcgfogdfcdndgaaGreatDoor
open Go.RowKit Go.Shelf
attribute [local go_sem] Oper.semAt_some

/-- Blocks that stateOf turns. -/
structure FrW (g gm gr : Nat) (vF vR : Value) (W W' : World) : Prop where
  size : W.heap.size ≤ W'.heap.size
  keep : ∀ i, i < W.heap.size → i ≠ g → i ≠ gm → i ≠ gr → vF.ownBlock ≠ some i → vR.ownBlock ≠ some i → W'.heap[i]? = W.heap[i]?
theorem FrW.below {g gm gr : Nat} {vF vR : Value} {W W' W'' : World} (h : FrW g gm gr vF vR W W') (hb : Below W'.heap.size W' W'') : FrW g gm gr vF vR W W'' :=
  ⟨Nat.le_trans h.size hb.size, fun i hi h1 h2 h3 h4 h5 => (hb.block i (Nat.lt_of_lt_of_le hi h.size)).trans (h.keep i hi h1 h2 h3 h4 h5)⟩
theorem FrW.grown {g gm gr : Nat} {vF vR : Value} {W W' W'' : World} (h : FrW g gm gr vF vR W W') {r : Option Nat} (hg : W'.grownBy W'' r) (hr : ∀ i, r = some i → i < W.heap.size → i = g ∨ i = gm ∨ i = gr ∨ vF.ownBlock = some i ∨ vR.ownBlock = some i) : FrW g gm gr vF vR W W'' :=
  ⟨Nat.le_trans h.size hg.size, fun i hi h1 h2 h3 h4 h5 => (hg.block i (Nat.lt_of_lt_of_le hi h.size) (fun e => by
    rcases hr i e.symm hi with e | e | e | e | e
    · exact h1 e
    · exact h2 e
    · exact h3 e
    · exact h4 e
    · exact h5 e)).trans (h.keep i hi h1 h2 h3 h4 h5)⟩
def GotSd (W0 W1 : World) (n1 g gm gr S : Nat) (cl : Nat → Int) (X : List Int) (ex0 : Nat → Prop) (m : Mv) (rd : Nat) (F : List (List Nat)) (T : List (List Int)) (W : World) (l : List Nat) (e : Ending) (W' : World) : Prop :=
  ∃ vF vR, e = .returned (.int .i64 (valD (putD F l) l)) ∧ MkW W0 W1 n1 g gm gr S cl X ex0 { m with fo := vF, ru := vR } rd (putD F l) (putD F l) (putD F l) T W' ∧ FrW g gm gr m.fo m.ru W W' ∧
    (∀ i, vF.ownBlock = some i → m.fo.ownBlock = some i ∨ W.heap.size ≤ i) ∧ (∀ i, vR.ownBlock = some i → m.ru.ownBlock = some i ∨ W.heap.size ≤ i)
theorem ownI_row {w : World} {base : Nat} {A : Option Addr} {n c : Nat} {l : List Nat} (h : OwnI w base (.slice A n c) l) : ∀ ad, A = some ad → base ≤ ad.block ∧ ad.block < w.heap.size ∧ ∃ cs, w.heap[ad.block]? = some (.cells cs 3 (0, 0)) := fun ad e => by
  subst e
  rcases h.2 with ⟨e, _⟩ | ⟨g, cap, cur, e, hb, hg, _⟩
  · cases e
  · injection e with e _ _
    obtain rfl := Option.some.inj e
    exact ⟨hb, (Array.getElem?_eq_some_iff.1 hg).1, cur, hg⟩
theorem rdw_zl {w : World} {A : Option Addr} {l : List Nat} (h : RdZ w A l) : RdW w A (zl l) := fun k hk => by
  have hk2 : k < l.length := by unfold zl at hk; rwa [List.length_map] at hk
  obtain ⟨ad, e, hc⟩ := h k hk2
  refine ⟨ad, e, ?_⟩
  rw [show (zl l)[k] = ((l[k] : Nat) : Int) from List.getElem_map (fun n : Nat => (n : Int))]
  exact hc
theorem zl_lenD (l : List Nat) : (zl l).length = l.length := by unfold zl; rw [List.length_map]

set_option maxRecDepth 100000 in
set_option maxHeartbeats 8000000 in
theorem state_any {W0 W1 : World} {n1 g gm gr S : Nat} {E : List Ed} {gf ge : Nat} {Af Ae : Nat → Option Addr} {cf ce : Nat → Nat} {cl : Nat → Int} {X : List Int} {ex0 : Nat → Prop} {vT vR vX vfr ved vls vF : Value} (st : StD W0 W1 n1 g gm gr S E gf ge Af Ae cf ce)
    (hfr : vfr = .slice (some ⟨gf, 0, none⟩) S S) (Ax : Option Addr) (nx cx : Nat) (hen : vX = .slice Ax nx cx) (hx : X.length = nx) (hx2 : nx ≤ 64) (hX : RdW W0 Ax X) (rd : Nat) (hrd : rd < 900000)
    (F : List (List Nat)) (T : List (List Int)) (hF : F.length ≤ 2000) (hgood : ∀ x ∈ F, GoodL S x) (A : Option Addr) (n c : Nat) (xs : List Nat) (hn : xs.length = n) (hn2 : n ≤ 140737488355328) (hxs : InN S xs) (W : World)
    (h : MkW W0 W1 n1 g gm gr S cl X ex0 ⟨vT, vR, vX, vfr, ved, vls, vF⟩ rd F F F T W) (hst : ∀ W', Fr g gr (.slice none 0 0) W W' → RdZ W' A xs) (hex0 : ∀ i, ex0 i → i < W.heap.size) :
    Calls Tryz.prog 30 #[.pointer (some ⟨g, 0, none⟩), .slice A n c] W (GotSd W0 W1 n1 g gm gr S cl X ex0 ⟨vT, vR, vX, vfr, ved, vls, vF⟩ (rd + 1) F T W (closeL S E xs)) := by
  have hcg := good_close S E xs
  obtain ⟨f, hm, hfl⟩ := h.mr
  have HC := Lib.hid (closed_any st hfr rd (by omega) A n c xs hn hn2 hxs W f hm hfl hst)
  generalize hl : closeL S E xs = l at *
  generalize hQ : GotSd W0 W1 n1 g gm gr S cl X ex0 ⟨vT, vR, vX, vfr, ved, vls, vF⟩ (rd + 1) F T W l = Q
  have HQ := Lib.hid hQ
  have H0 := Lib.hid h
  have K0 := Lib.hid hm.kp.size
  have HVF := Lib.hid h.fo.own
  have HVR := Lib.hid (OwnZ.own h.ru)
  obtain ⟨hin, hpw⟩ := hcg
  have hll : l.length ≤ 2048 := Nat.le_trans (len_le (hpw.imp (fun h => by omega)) hin) st.pl.s2
  have HLL := Lib.hid hll
  have H65 := Lib.hid (show ∀ x ∈ l, x < 65536 from fun x hx => by have := hin x hx; have := st.pl.s2; omega)
  have PL := Lib.hid st.pl
  clear hQ hl h hm hfl hst hn hxs hin hpw hll
  subst hfr hen
  go_enter Tryz.func30, Tryz.ntmps30
  go_wp2_with fail
  refine HC.out.mono ?_
  rintro e w1 ⟨v, rfl, ho1, ⟨f1, hm1, hf1⟩, fr1⟩
  have M1 := Lib.hid (H0.out.keep (W' := w1) (rd' := rd + 1) (fun i h1 h2 => fr1.keep i h2 (by have := PL.out.ug; omega) (by have := PL.out.ur; omega) (own_none i)) (fr1.keep gm (by have := PL.out.um; have := K0.out; omega) (fun e => PL.out.gm_ne e.symm) PL.out.mr_ne (own_none gm)) ⟨f1, hm1, hf1⟩)
  have F1 := Lib.hid (show FrW g gm gr vF vR W w1 from ⟨fr1.size, fun i hi h1 h2 h3 _ _ => fr1.keep i hi h1 h3 (own_none i)⟩)
  obtain ⟨A1, n1', c1, rfl, HL1, hnc1, hcm1, hrz1⟩ := ho1.form
  have O1 := Lib.hid ho1
  have HT := Lib.hid (text_any l A1 n1' c1 HL1.out (by have := HL1.out; have := HLL.out; omega) w1 hrz1)
  clear ho1 hm1 hf1 fr1 HC hrz1 H0
  go_wp2_with fail
  refine HT.out.mono ?_
  rintro e w2 ⟨rfl, hb2⟩
  have M2 := Lib.hid (M1.out.below PL.out hb2)
  have F2 := Lib.hid (F1.out.below hb2)
  have O2 := Lib.hid (show OwnI w2 W.heap.size (.slice A1 n1' c1) l from World.ownsRow.kept O1.out (grown_of_below hb2 none) (by cases (Value.slice A1 n1' c1).ownBlock <;> simp))
  have hlook := M2.out.map.look H65.out (by have := HLL.out; omega)
  obtain ⟨f2, hm2, hf2⟩ := M2.out.mr
  have c6 := hm2.c6
  have c7 := hm2.c7
  have z1 := hm2.free 257
  have z6 := hm2.free 262
  obtain ⟨AF, nF, cF, hvF, HNF⟩ := M2.out.fo.form
  have hvF2 : vF = .slice AF nF cF := hvF
  subst hvF2
  clear M1 F1 O1 HT hb2 hm2 hf2 hvF
  by_cases hin : l = [] ∨ l ∈ F
  · have hdec : decide (l = [] ∨ l ∈ F) = true := decide_eq_true hin
    have hput : putD F l = F := by
      unfold putD
      rcases hin with h | h
      · rw [if_pos h]
      · by_cases h0 : l = []
        · rw [if_pos h0]
        · rw [if_neg h0, if_pos h]
    have HP := Lib.hid hput
    rw [if_pos hin, hdec] at hlook
    obtain ⟨z, hz⟩ : ∃ z, valD F l = z := ⟨_, rfl⟩
    rw [hz] at hlook
    have HZ := Lib.hid hz
    clear hdec hput hin hz
    go_wp2_with fail
    refine post_is HQ ⟨_, _, ?_, ?_, F2.out, fun i e => Or.inl e, fun i e => Or.inl e⟩
    · rw [HP.out, HZ.out]
      rfl
    · rw [HP.out]
      exact M2.out
  · have hdec : decide (l = [] ∨ l ∈ F) = false := decide_eq_false hin
    rw [if_neg hin, hdec] at hlook
    have hne : l ≠ [] := fun e => hin (Or.inl e)
    have hnF : l ∉ F := fun e => hin (Or.inr e)
    have hFn : F.length = nF := by have := HNF.out; rwa [List.length_map] at this
    obtain ⟨w3, hrun, hmap3, hg3⟩ := M2.out.map.put H65.out (by have := HLL.out; omega) hne hnF (by omega)
    rw [hFn] at hrun
    have HP := Lib.hid (show putD F l = F ++ [l] from by unfold putD; rw [if_neg hne, if_neg hnF])
    have HV := Lib.hid (show valD (F ++ [l]) l = (nF : Int) from by
      rw [valD, if_neg hne, List.idxOf_append, if_neg hnF, hFn]
      simp)
    have M3 := Lib.hid (M2.out.putmap PL.out hg3 hmap3)
    have F3 := Lib.hid (F2.out.grown hg3 (fun i e _ => Or.inr (Or.inl (Option.some.inj e).symm)))
    have O3 := Lib.hid (show OwnI w3 W.heap.size (.slice A1 n1' c1) l from World.ownsRow.kept O2.out hg3 (Or.inr (fun e => by have := (World.ownsRow.lt O2.out _ e).1; have := PL.out.um; have := K0.out; omega)))
    have M4 := Lib.hid (M3.out.below PL.out (bl_alloc (Below.refl w3.heap.size w3) (.cells #[.slice A1 n1' c1] 23)))
    have O4 := Lib.hid (show OwnI (w3.alloc (.cells #[.slice A1 n1' c1] 23)) W.heap.size (.slice A1 n1' c1) l from World.ownsRow.alloc O3.out _)
    have F4 := Lib.hid (F3.out.below (bl_alloc (Below.refl w3.heap.size w3) (.cells #[.slice A1 n1' c1] 23)))
    obtain ⟨f3, hm3, hf3⟩ := M3.out.mr
    have c63 := hm3.c6
    have z63 := hm3.free 262
    obtain ⟨f4, hm4, hf4⟩ := M4.out.mr
    have K4 := Lib.hid hm4.kp.size
    obtain ⟨vals, a1, a2, a3⟩ := M4.out.fo
    have A1' := Lib.hid a1
    have A2' := Lib.hid a2
    have A3' := Lib.hid a3
    have HM4 := Lib.hid hm4
    obtain ⟨i0, hi, hz0, hz1, hz2⟩ := info_parts info_ints
    have hnF2 := hFn
    have HF2 := Lib.hid hF
    clear hdec hin hne hnF hmap3 hg3 M2 F2 O2 M3 F3 O3 hm3 hf3 hm4 hf4 a1 a2 a3 hgood hFn hF
    go_wp2_with (at_builtin; refine wpList_append_lies _ rfl _ _ 31 rfl n1 23 i0 (.slice none 0 0) 1 24 Tryz.underlying31 hi hz0 hz1 hz2 rfl (by decide) (.slice AF nF cF) (F.map zl).length vals (by first | rfl | rw [HNF.out]) A1'.out ⟨w3.heap.size, 0, none⟩ 1 1 [.slice A1 n1' c1] rfl rfl (one_row _ _ _) (by simp [Value.oneCell']) (by omega) (by have := HF2.out; rw [List.length_map]; simp only [maxLen]; omega) (by have := HF2.out; rw [List.length_map]; omega) (by have := K4.out; exact this) _ rfl ?_; intro g5 c5 w5 ho5 hg5 hat5 hlt5; have hm5 := HM4.out.grown PL.out hg5 (fun i e => (World.ownsRow.lt A1'.out i e).1); have c65 := hm5.c6; have z65 := hm5.free 262)
    rw [HNF.out] at ho5
    have ho5' := ho5
    have hvfb : ∀ i, (Value.slice AF nF cF).ownBlock = some i → i < W.heap.size := fun i e => (HVF.out i e).2
    have O5 := Lib.hid (show OwnI w5 W.heap.size (.slice A1 n1' c1) l from World.ownsRow.kept O4.out hg5 (by
      cases hb : (Value.slice A1 n1' c1).ownBlock with
      | none => exact Or.inl rfl
      | some q => exact Or.inr (fun e => by have := (World.ownsRow.lt O4.out q hb).1; have := hvfb q e.symm; omega)))
    obtain ⟨B5, k5, d5, e5, hl5, _, hd5, hz5⟩ := O5.out.form
    injection e5 with e51 e52 e53
    subst e51 e52 e53
    have hrows : RowsZ w5 n1 (.slice (some ⟨g5, 0, none⟩) (nF + 1) c5) (F.map zl ++ [zl l]) (fun i => vR.ownBlock = some i ∨ ex0 i) := RowsZ.snoc A1'.out A2'.out A3'.out hg5 (by rw [HNF.out]; exact ho5) (by rw [zl_lenD]; exact HL1.out) hnc1 hcm1 (rdw_zl hz5) (fun ad e => by
      obtain ⟨b1, b2, b3⟩ := ownI_row O5.out ad e
      exact ⟨by have := K0.out; omega, fun e2 => by rcases e2 with e2 | e2; (have := (HVR.out _ e2).2; omega); (have := hex0 _ e2; omega), b3⟩) (fun i _ h => h)
    have M6 := Lib.hid (M4.out.found PL.out hg5 hrows (by
      rcases hat5 with h | h
      · exact Or.inl h.symm
      · exact Or.inr (congrArg some h)))
    have hsf := grown_set w5 g 262 (.slice (some ⟨g5, 0, none⟩) (nF + 1) c5)
    have F6 := Lib.hid ((F4.out.grown hg5 (fun i e _ => Or.inr (Or.inr (Or.inr (Or.inl e))))).grown hsf (fun i e _ => Or.inl (Option.some.inj e).symm))
    have O6 := Lib.hid (show OwnI (w5.setCell ⟨g, 262, none⟩ (.slice (some ⟨g5, 0, none⟩) (nF + 1) c5)) W.heap.size (.slice A1 n1' c1) l from World.ownsRow.kept O5.out hsf (by
      cases hb : (Value.slice A1 n1' c1).ownBlock with
      | none => exact Or.inl rfl
      | some q => exact Or.inr (fun e => by have := (World.ownsRow.lt O5.out q hb).1; have e2 := Option.some.inj e; have := PL.out.ug; have := K0.out; omega)))
    have NF := Lib.hid (show ∀ i, (Value.slice (some ⟨g5, 0, none⟩) (nF + 1) c5).ownBlock = some i → (Value.slice AF nF cF).ownBlock = some i ∨ W.heap.size ≤ i from fun i e => by
      obtain rfl : g5 = i := Option.some.inj e
      rcases hat5 with h | h
      · exact Or.inl h
      · right
        have := F4.out.size
        omega)
    clear hm5 c65 z65 hrows hl5 hd5 hz5 ho5 ho5' hg5 hat5 hlt5 M4 O4 F4 O5 A1' A2' A3' HM4 c63 z63 hsf hi hz0 hz1 hz2 hvfb K4 c6 c7 z1 z6 hlook hrun
    generalize w5.setCell ⟨g, 262, none⟩ (.slice (some ⟨g5, 0, none⟩) (nF + 1) c5) = w6 at *
    generalize Value.slice (some ⟨g5, 0, none⟩) (nF + 1) c5 = vF' at *
    refine wp_region_held_drew (S := fun _ => True) (by kernel_rfl) trivial (fun hHeld => ?_)
    have M6d := Lib.hid M6.out.drew
    have O6d := Lib.hid (show OwnI w6.drew W.heap.size (.slice A1 n1' c1) l from O6.out)
    have F6d := Lib.hid (show FrW g gm gr (.slice AF nF cF) vR W w6.drew from ⟨F6.out.size, F6.out.keep⟩)
    clear M6 O6 F6
    generalize w6.drew = w7 at *
    obtain ⟨f7, hm7, hf7⟩ := M6d.out.mr
    obtain ⟨hruL, hruO⟩ : (rulesD F X).length = nF ∧ OwnZ w7 n1 vR (rulesD F X) := ⟨by unfold rulesD; rw [List.length_map]; exact hnF2, M6d.out.ru⟩
    have HRUL := Lib.hid hruL
    have c17 := hm7.c1
    have HM7 := Lib.hid hm7
    clear hm7 hf7 hruL hruO
    try simp only [zzA, zzB, zzC, Act.put, zzD, zzE, zzF]
    refine wpAnyH_take (i := 0) (v := ?vza0) rfl (by kernel_rfl) (by kernel_rfl) (by kernel_rfl) (fun _ _ _ h => h) (Or.inl ⟨by rfl, ?yza0⟩) hHeld ?rza0
    case yza0 => (intro wS hSw; clear hSw; go_simp; try (with_reducible rfl))
    try simp only [zzA, zzB, zzC, Act.put, zzD, zzE, zzF]
    refine wpAnyH_take (i := 1) (v := ?vza1) rfl (by kernel_rfl) (by kernel_rfl) (by kernel_rfl) (fun _ _ _ h => h) (Or.inl ⟨by rfl, ?yza1⟩) hHeld ?rza1
    case yza1 => (intro wS hSw; clear hSw; go_simp; try (with_reducible rfl))
    try simp only [zzA, zzB, zzC, Act.put, zzD, zzE, zzF]
    refine wpAnyH_take (i := 2) (v := ?vza2) rfl (by kernel_rfl) (by kernel_rfl) (by kernel_rfl) (fun _ _ _ h => h) (Or.inl ⟨by rfl, ?yza2⟩) hHeld ?rza2
    case yza2 => (intro wS hSw; clear hSw; go_simp; try (with_reducible rfl))
    try simp only [zzA, zzB, zzC, Act.put, zzD, zzE, zzF]
    refine wpAnyH_take (i := 3) (v := ?vza3) rfl (by kernel_rfl) (by kernel_rfl) (by kernel_rfl) (fun _ _ _ h => h) (Or.inl ⟨by rfl, ?yza3⟩) hHeld ?rza3
    case yza3 => (intro wS hSw; clear hSw; go_simp; try (with_reducible rfl))
    try simp only [zzA, zzB, zzC, Act.put, zzD, zzE, zzF]
    refine wpAnyH_take (i := 4) (v := ?vza4) rfl (by kernel_rfl) (by kernel_rfl) (by kernel_rfl) (fun _ _ _ h => h) (Or.inl ⟨by rfl, ?yza4⟩) hHeld ?rza4
    case yza4 => (intro wS hSw; clear hSw; go_simp; try (with_reducible rfl))
    try simp only [zzA, zzB, zzC, Act.put, zzD, zzE, zzF]
    refine wpAnyH_take (i := 6) (v := ?vza6) rfl (by kernel_rfl) (by kernel_rfl) (by kernel_rfl) (fun _ _ _ h => h) (Or.inl ⟨by rfl, ?yza6⟩) hHeld ?rza6
    case yza6 => (intro wS hSw; clear hSw; go_simp; try (with_reducible rfl))
    try simp only [zzA, zzB, zzC, Act.put, zzD, zzE, zzF]
    refine wpAnyH_take (i := 7) (v := ?vza7) rfl (by kernel_rfl) (by kernel_rfl) (by kernel_rfl) (fun _ _ _ h => h) (Or.inl ⟨by rfl, ?yza7⟩) hHeld ?rza7
    case yza7 => (intro wS hSw; clear hSw; go_simp; try (with_reducible rfl))
    try simp only [zzA, zzB, zzC, Act.put, zzD, zzE, zzF]
    refine wpAnyH_ready (rs := [5, 8]) (by kernel_rfl) (by simp) (AllReadyH.cons rfl (fun K hK => ?_) (AllReadyH.cons rfl (fun K hK => ?_) AllReadyH.nil))
    · skip
      have cld := M6d.out.mr.elim (fun _ h => h.1.c1)
      go_simp
      refine hK.out _ _ hHeld (fun hHeld => ?_)
      clear hK K cld
      try simp only [zzA, zzB, zzC, Act.put, zzD, zzE, zzF]
      refine wpAnyH_ready (rs := [8]) (by kernel_rfl) (by simp) (AllReadyH.cons rfl (fun K hK => ?_) AllReadyH.nil)
      go_simp
      have HRC := Lib.hid (rule_any (m := ⟨vT, vR, .slice Ax nx cx, .slice (some ⟨gf, 0, none⟩) S S, ved, vls, vF'⟩) X Ax nx cx hx (by omega) rfl W.heap.size l A1 n1' c1 (by have := HLL.out; omega) w7 HM7.out O6d.out (hX.below HM7.out.low))
      go_at_call 57
      refine HRC.out.mono ?_
      rintro e w8 ⟨rfl, hb8⟩
      have M8 := Lib.hid (M6d.out.below PL.out hb8)
      have F8 := Lib.hid (F6d.out.below hb8)
      clear hb8 HRC
      go_wp2_with fail
      refine hK.out _ _ hHeld (fun hHeld => ?_)
      clear hK K
      try simp only [zzA, zzB, zzC, Act.put, zzD, zzE, zzF]
      refine wpAnyH_ready (rs := [9]) (by kernel_rfl) (by simp) (AllReadyH.cons rfl (fun K hK => ?_) AllReadyH.nil)
      go_simp
      have M9 := Lib.hid (M8.out.below PL.out (bl_alloc (Below.refl w8.heap.size w8) (.cells #[.int .i64 (idxE l X 0)] 3)))
      have F9 := Lib.hid (F8.out.below (bl_alloc (Below.refl w8.heap.size w8) (.cells #[.int .i64 (idxE l X 0)] 3)))
      have ka := heap_alloc_new w8 (.cells #[.int .i64 (idxE l X 0)] 3)
      refine hK.out _ _ hHeld (fun hHeld => ?_)
      clear hK K M8 F8
      generalize w8.alloc (.cells #[.int .i64 (idxE l X 0)] 3) = w9 at *
      generalize w8.heap.size = ga at *
      have KA := Lib.hid ka
      clear ka
      try simp only [zzA, zzB, zzC, Act.put, zzD, zzE, zzF]
      refine wpAnyH_ready (rs := [10]) (by kernel_rfl) (by simp) (AllReadyH.cons rfl (fun K hK => ?_) AllReadyH.nil)
      rw [if_pos (by rfl)]
      obtain ⟨i0, hi, hz0, hz1, hz2⟩ := info_parts info_int
      have hfl := HRUL.out
      have hF3 := HF2.out
      obtain ⟨f9, hm9, hf9⟩ := M9.out.mr
      refine wp_append_lies _ _ _ 23 rfl n1 3 i0 (.int .i64 0) 1 8 Tryz.underlying23 hi hz0 hz1 hz2 rfl (by omega) vR (rulesD F X).length ((rulesD F X).map (Value.int .i64)) rfl M9.out.ru ⟨ga, 0, none⟩ 1 1 [.int .i64 (idxE l X 0)] rfl rfl (fun t u hu => by rw [addr_mk, Nat.zero_add, cell_of_row _ ga t _ _ _ KA.out]; simpa using hu) (by simp [Value.oneCell']) (by omega) (by rw [hfl]; simp only [maxLen]; omega) (by rw [hfl]; omega) hm9.kp.size _ rfl ?_
      intro q cap wq hoq hgq hatq hltq
      rw [hfl] at hoq ⊢
      have hmq := hm9.grown PL.out hgq (fun i e => (OwnZ.own M9.out.ru i e).1)
      have c1q := hmq.c1
      have z1q := hmq.free 257
      have Mz := Lib.hid (M9.out.ruled (l := l) PL.out hgq (v' := .slice (some ⟨q, 0, none⟩) (nF + 1) cap) (by
        unfold OwnZ
        rw [List.length_append, List.length_singleton, List.map_append, HRUL.out]
        exact hoq) (by
        rcases hatq with h | h
        · exact Or.inl h.symm
        · exact Or.inr (congrArg some h)))
      have hsq := grown_set wq g 257 (.slice (some ⟨q, 0, none⟩) (nF + 1) cap)
      have Fz := Lib.hid ((F9.out.grown hgq (fun i e _ => Or.inr (Or.inr (Or.inr (Or.inr e))))).grown hsq (fun i e _ => Or.inl (Option.some.inj e).symm))
      have NR := Lib.hid (show ∀ i, (Value.slice (some ⟨q, 0, none⟩) (nF + 1) cap).ownBlock = some i → vR.ownBlock = some i ∨ W.heap.size ≤ i from fun i e => by
        obtain rfl : q = i := Option.some.inj e
        rcases hatq with h | h
        · exact Or.inl h
        · right
          have := F9.out.size
          omega)
      clear hfl hF3 hmq hsq hoq hgq hatq hltq hm9 hf9 hi hz0 hz1 hz2 KA F9 M9
      refine hK.out _ _ hHeld (fun hHeld => ?_)
      clear hK K
      try simp only [zzA, zzB, zzC, Act.put, zzD, zzE, zzF]
      refine wpAnyH_take (i := 11) (v := ?vzc11) rfl (by kernel_rfl) (by kernel_rfl) (by kernel_rfl) (fun _ _ _ h => h) (Or.inl ⟨by rfl, ?yzc11⟩) hHeld ?rzc11
      case yzc11 => (intro wS hSw; clear hSw; go_simp; try (with_reducible rfl))
      try simp only [zzA, zzB, zzC, Act.put, zzD, zzE, zzF]
      refine wpAnyH_take (i := 12) (v := ?vzc12) rfl (by kernel_rfl) (by kernel_rfl) (by kernel_rfl) (fun _ _ _ h => h) (Or.inl ⟨by rfl, ?yzc12⟩) hHeld ?rzc12
      case yzc12 => (intro wS hSw; clear hSw; go_simp; try (with_reducible rfl))
      try simp only [zzA, zzB, zzC, Act.put, zzD, zzE, zzF]
      refine wpAnyH_take (i := 13) (v := ?vzc13) rfl (by kernel_rfl) (by kernel_rfl) (by kernel_rfl) (fun _ _ _ h => h) (Or.inl ⟨by rfl, ?yzc13⟩) hHeld ?rzc13
      case yzc13 => (intro wS hSw; clear hSw; go_simp; try (with_reducible rfl))
      try simp only [zzA, zzB, zzC, Act.put, zzD, zzE, zzF]
      refine wpAnyH_ready (rs := [14]) (by kernel_rfl) (by simp) (AllReadyH.cons rfl (fun K hK => ?_) AllReadyH.nil)
      go_simp
      refine hK.out _ _ hHeld (fun hHeld => ?_)
      clear hK K
      try simp only [zzA, zzB, zzC, Act.put, zzD, zzE, zzF]
      refine wpAnyH_done (by kernel_rfl) ?_ _
      go_wp2_with fail
      refine post_is HQ ⟨_, _, ?_, ?_, Fz.out, NF.out, NR.out⟩
      · rw [HP.out, HV.out]
      · rw [HP.out]
        exact Mz.out
    · skip
      go_simp
      have HRC := Lib.hid (rule_any (m := ⟨vT, vR, .slice Ax nx cx, .slice (some ⟨gf, 0, none⟩) S S, ved, vls, vF'⟩) X Ax nx cx hx (by omega) rfl W.heap.size l A1 n1' c1 (by have := HLL.out; omega) w7 HM7.out O6d.out (hX.below HM7.out.low))
      go_at_call 57
      refine HRC.out.mono ?_
      rintro e w8 ⟨rfl, hb8⟩
      have M8 := Lib.hid (M6d.out.below PL.out hb8)
      have F8 := Lib.hid (F6d.out.below hb8)
      clear hb8 HRC
      go_wp2_with fail
      refine hK.out _ _ hHeld (fun hHeld => ?_)
      clear hK K
      try simp only [zzA, zzB, zzC, Act.put, zzD, zzE, zzF]
      refine wpAnyH_ready (rs := [5, 9]) (by kernel_rfl) (by simp) (AllReadyH.cons rfl (fun K hK => ?_) (AllReadyH.cons rfl (fun K hK => ?_) AllReadyH.nil))
      · skip
        have cld := M8.out.mr.elim (fun _ h => h.1.c1)
        go_simp
        refine hK.out _ _ hHeld (fun hHeld => ?_)
        clear hK K cld
        try simp only [zzA, zzB, zzC, Act.put, zzD, zzE, zzF]
        refine wpAnyH_ready (rs := [9]) (by kernel_rfl) (by simp) (AllReadyH.cons rfl (fun K hK => ?_) AllReadyH.nil)
        go_simp
        have M9 := Lib.hid (M8.out.below PL.out (bl_alloc (Below.refl w8.heap.size w8) (.cells #[.int .i64 (idxE l X 0)] 3)))
        have F9 := Lib.hid (F8.out.below (bl_alloc (Below.refl w8.heap.size w8) (.cells #[.int .i64 (idxE l X 0)] 3)))
        have ka := heap_alloc_new w8 (.cells #[.int .i64 (idxE l X 0)] 3)
        refine hK.out _ _ hHeld (fun hHeld => ?_)
        clear hK K M8 F8
        generalize w8.alloc (.cells #[.int .i64 (idxE l X 0)] 3) = w9 at *
        generalize w8.heap.size = ga at *
        have KA := Lib.hid ka
        clear ka
        try simp only [zzA, zzB, zzC, Act.put, zzD, zzE, zzF]
        refine wpAnyH_ready (rs := [10]) (by kernel_rfl) (by simp) (AllReadyH.cons rfl (fun K hK => ?_) AllReadyH.nil)
        rw [if_pos (by rfl)]
        obtain ⟨i0, hi, hz0, hz1, hz2⟩ := info_parts info_int
        have hfl := HRUL.out
        have hF3 := HF2.out
        obtain ⟨f9, hm9, hf9⟩ := M9.out.mr
        refine wp_append_lies _ _ _ 23 rfl n1 3 i0 (.int .i64 0) 1 8 Tryz.underlying23 hi hz0 hz1 hz2 rfl (by omega) vR (rulesD F X).length ((rulesD F X).map (Value.int .i64)) rfl M9.out.ru ⟨ga, 0, none⟩ 1 1 [.int .i64 (idxE l X 0)] rfl rfl (fun t u hu => by rw [addr_mk, Nat.zero_add, cell_of_row _ ga t _ _ _ KA.out]; simpa using hu) (by simp [Value.oneCell']) (by omega) (by rw [hfl]; simp only [maxLen]; omega) (by rw [hfl]; omega) hm9.kp.size _ rfl ?_
        intro q cap wq hoq hgq hatq hltq
        rw [hfl] at hoq ⊢
        have hmq := hm9.grown PL.out hgq (fun i e => (OwnZ.own M9.out.ru i e).1)
        have c1q := hmq.c1
        have z1q := hmq.free 257
        have Mz := Lib.hid (M9.out.ruled (l := l) PL.out hgq (v' := .slice (some ⟨q, 0, none⟩) (nF + 1) cap) (by
          unfold OwnZ
          rw [List.length_append, List.length_singleton, List.map_append, HRUL.out]
          exact hoq) (by
          rcases hatq with h | h
          · exact Or.inl h.symm
          · exact Or.inr (congrArg some h)))
        have hsq := grown_set wq g 257 (.slice (some ⟨q, 0, none⟩) (nF + 1) cap)
        have Fz := Lib.hid ((F9.out.grown hgq (fun i e _ => Or.inr (Or.inr (Or.inr (Or.inr e))))).grown hsq (fun i e _ => Or.inl (Option.some.inj e).symm))
        have NR := Lib.hid (show ∀ i, (Value.slice (some ⟨q, 0, none⟩) (nF + 1) cap).ownBlock = some i → vR.ownBlock = some i ∨ W.heap.size ≤ i from fun i e => by
          obtain rfl : q = i := Option.some.inj e
          rcases hatq with h | h
          · exact Or.inl h
          · right
            have := F9.out.size
            omega)
        clear hfl hF3 hmq hsq hoq hgq hatq hltq hm9 hf9 hi hz0 hz1 hz2 KA F9 M9
        refine hK.out _ _ hHeld (fun hHeld => ?_)
        clear hK K
        try simp only [zzA, zzB, zzC, Act.put, zzD, zzE, zzF]
        refine wpAnyH_take (i := 11) (v := ?vze11) rfl (by kernel_rfl) (by kernel_rfl) (by kernel_rfl) (fun _ _ _ h => h) (Or.inl ⟨by rfl, ?yze11⟩) hHeld ?rze11
        case yze11 => (intro wS hSw; clear hSw; go_simp; try (with_reducible rfl))
        try simp only [zzA, zzB, zzC, Act.put, zzD, zzE, zzF]
        refine wpAnyH_take (i := 12) (v := ?vze12) rfl (by kernel_rfl) (by kernel_rfl) (by kernel_rfl) (fun _ _ _ h => h) (Or.inl ⟨by rfl, ?yze12⟩) hHeld ?rze12
        case yze12 => (intro wS hSw; clear hSw; go_simp; try (with_reducible rfl))
        try simp only [zzA, zzB, zzC, Act.put, zzD, zzE, zzF]
        refine wpAnyH_take (i := 13) (v := ?vze13) rfl (by kernel_rfl) (by kernel_rfl) (by kernel_rfl) (fun _ _ _ h => h) (Or.inl ⟨by rfl, ?yze13⟩) hHeld ?rze13
        case yze13 => (intro wS hSw; clear hSw; go_simp; try (with_reducible rfl))
        try simp only [zzA, zzB, zzC, Act.put, zzD, zzE, zzF]
        refine wpAnyH_ready (rs := [14]) (by kernel_rfl) (by simp) (AllReadyH.cons rfl (fun K hK => ?_) AllReadyH.nil)
        go_simp
        refine hK.out _ _ hHeld (fun hHeld => ?_)
        clear hK K
        try simp only [zzA, zzB, zzC, Act.put, zzD, zzE, zzF]
        refine wpAnyH_done (by kernel_rfl) ?_ _
        go_wp2_with fail
        refine post_is HQ ⟨_, _, ?_, ?_, Fz.out, NF.out, NR.out⟩
        · rw [HP.out, HV.out]
        · rw [HP.out]
          exact Mz.out
      · skip
        go_simp
        have M9 := Lib.hid (M8.out.below PL.out (bl_alloc (Below.refl w8.heap.size w8) (.cells #[.int .i64 (idxE l X 0)] 3)))
        have F9 := Lib.hid (F8.out.below (bl_alloc (Below.refl w8.heap.size w8) (.cells #[.int .i64 (idxE l X 0)] 3)))
        have ka := heap_alloc_new w8 (.cells #[.int .i64 (idxE l X 0)] 3)
        refine hK.out _ _ hHeld (fun hHeld => ?_)
        clear hK K M8 F8
        generalize w8.alloc (.cells #[.int .i64 (idxE l X 0)] 3) = w9 at *
        generalize w8.heap.size = ga at *
        have KA := Lib.hid ka
        clear ka
        try simp only [zzA, zzB, zzC, Act.put, zzD, zzE, zzF]
        refine wpAnyH_ready (rs := [5]) (by kernel_rfl) (by simp) (AllReadyH.cons rfl (fun K hK => ?_) AllReadyH.nil)
        have cld := M9.out.mr.elim (fun _ h => h.1.c1)
        go_simp
        refine hK.out _ _ hHeld (fun hHeld => ?_)
        clear hK K cld
        try simp only [zzA, zzB, zzC, Act.put, zzD, zzE, zzF]
        refine wpAnyH_ready (rs := [10]) (by kernel_rfl) (by simp) (AllReadyH.cons rfl (fun K hK => ?_) AllReadyH.nil)
        rw [if_pos (by rfl)]
        obtain ⟨i0, hi, hz0, hz1, hz2⟩ := info_parts info_int
        have hfl := HRUL.out
        have hF3 := HF2.out
        obtain ⟨f9, hm9, hf9⟩ := M9.out.mr
        refine wp_append_lies _ _ _ 23 rfl n1 3 i0 (.int .i64 0) 1 8 Tryz.underlying23 hi hz0 hz1 hz2 rfl (by omega) vR (rulesD F X).length ((rulesD F X).map (Value.int .i64)) rfl M9.out.ru ⟨ga, 0, none⟩ 1 1 [.int .i64 (idxE l X 0)] rfl rfl (fun t u hu => by rw [addr_mk, Nat.zero_add, cell_of_row _ ga t _ _ _ KA.out]; simpa using hu) (by simp [Value.oneCell']) (by omega) (by rw [hfl]; simp only [maxLen]; omega) (by rw [hfl]; omega) hm9.kp.size _ rfl ?_
        intro q cap wq hoq hgq hatq hltq
        rw [hfl] at hoq ⊢
        have hmq := hm9.grown PL.out hgq (fun i e => (OwnZ.own M9.out.ru i e).1)
        have c1q := hmq.c1
        have z1q := hmq.free 257
        have Mz := Lib.hid (M9.out.ruled (l := l) PL.out hgq (v' := .slice (some ⟨q, 0, none⟩) (nF + 1) cap) (by
          unfold OwnZ
          rw [List.length_append, List.length_singleton, List.map_append, HRUL.out]
          exact hoq) (by
          rcases hatq with h | h
          · exact Or.inl h.symm
          · exact Or.inr (congrArg some h)))
        have hsq := grown_set wq g 257 (.slice (some ⟨q, 0, none⟩) (nF + 1) cap)
        have Fz := Lib.hid ((F9.out.grown hgq (fun i e _ => Or.inr (Or.inr (Or.inr (Or.inr e))))).grown hsq (fun i e _ => Or.inl (Option.some.inj e).symm))
        have NR := Lib.hid (show ∀ i, (Value.slice (some ⟨q, 0, none⟩) (nF + 1) cap).ownBlock = some i → vR.ownBlock = some i ∨ W.heap.size ≤ i from fun i e => by
          obtain rfl : q = i := Option.some.inj e
          rcases hatq with h | h
          · exact Or.inl h
          · right
            have := F9.out.size
            omega)
        clear hfl hF3 hmq hsq hoq hgq hatq hltq hm9 hf9 hi hz0 hz1 hz2 KA F9 M9
        refine hK.out _ _ hHeld (fun hHeld => ?_)
        clear hK K
        try simp only [zzA, zzB, zzC, Act.put, zzD, zzE, zzF]
        refine wpAnyH_take (i := 11) (v := ?vzg11) rfl (by kernel_rfl) (by kernel_rfl) (by kernel_rfl) (fun _ _ _ h => h) (Or.inl ⟨by rfl, ?yzg11⟩) hHeld ?rzg11
        case yzg11 => (intro wS hSw; clear hSw; go_simp; try (with_reducible rfl))
        try simp only [zzA, zzB, zzC, Act.put, zzD, zzE, zzF]
        refine wpAnyH_take (i := 12) (v := ?vzg12) rfl (by kernel_rfl) (by kernel_rfl) (by kernel_rfl) (fun _ _ _ h => h) (Or.inl ⟨by rfl, ?yzg12⟩) hHeld ?rzg12
        case yzg12 => (intro wS hSw; clear hSw; go_simp; try (with_reducible rfl))
        try simp only [zzA, zzB, zzC, Act.put, zzD, zzE, zzF]
        refine wpAnyH_take (i := 13) (v := ?vzg13) rfl (by kernel_rfl) (by kernel_rfl) (by kernel_rfl) (fun _ _ _ h => h) (Or.inl ⟨by rfl, ?yzg13⟩) hHeld ?rzg13
        case yzg13 => (intro wS hSw; clear hSw; go_simp; try (with_reducible rfl))
        try simp only [zzA, zzB, zzC, Act.put, zzD, zzE, zzF]
        refine wpAnyH_ready (rs := [14]) (by kernel_rfl) (by simp) (AllReadyH.cons rfl (fun K hK => ?_) AllReadyH.nil)
        go_simp
        refine hK.out _ _ hHeld (fun hHeld => ?_)
        clear hK K
        try simp only [zzA, zzB, zzC, Act.put, zzD, zzE, zzF]
        refine wpAnyH_done (by kernel_rfl) ?_ _
        go_wp2_with fail
        refine post_is HQ ⟨_, _, ?_, ?_, Fz.out, NF.out, NR.out⟩
        · rw [HP.out, HV.out]
        · rw [HP.out]
          exact Mz.out

end Go.Proofs.YtcgfogdfcdndgaaGreatDoor
