/- What was printed is parsed as it was: bytes, stretches, sets. No program in it. -/
import Derived.Test.YteedmkokbapkgaaDoorRgWx
set_option linter.unusedVariables false
set_option linter.unusedSimpArgs false
namespace Go.Proofs.YteedmkokbapkgaaDoor

theorem digM_app {r r1 : List UInt8} {v : Nat} (z : List UInt8) (h : digM r = .ok v r1) : digM (r ++ z) = .ok v (r1 ++ z) := by
  cases r with
  | nil => cases h
  | cons b t =>
    rw [digM] at h
    rw [List.cons_append, digM]
    split at h
    · rename_i i hi
      injection h with h1 h2
      subst h1 h2
      first | rfl | rw [hi]
    · cases h
theorem escM_app {r r1 : List UInt8} {v : UInt8} (z : List UInt8) (h : escM r = .ok v r1) : escM (r ++ z) = .ok v (r1 ++ z) := by
  cases r with
  | nil => cases h
  | cons b t =>
    rw [escM] at h
    rw [List.cons_append, escM]
    by_cases hx : b = 120
    · rw [if_pos hx] at h ⊢
      cases h1 : digM t with
      | ok v1 t1 =>
        rw [h1] at h
        rw [digM_app z h1]
        simp only [] at h ⊢
        cases h2 : digM t1 with
        | ok v2 t2 =>
          rw [h2] at h
          rw [digM_app z h2]
          simp only [] at h ⊢
          injection h with h3 h4
          subst h3 h4
          rfl
        | bad x => rw [h2] at h; cases h
        | out => rw [h2] at h; cases h
      | bad x => rw [h1] at h; cases h
      | out => rw [h1] at h; cases h
    · rw [if_neg hx] at h ⊢
      cases hi : idxB ltrs b with
      | some i =>
        rw [hi] at h
        simp only [] at h ⊢
        injection h with h3 h4
        subst h3 h4
        rfl
      | none =>
        rw [hi] at h
        simp only [] at h ⊢
        split at h
        · rename_i hs
          injection h with h3 h4
          subst h3 h4
          rw [if_pos hs]
        · cases h
theorem oneM_app {sg r r1 : List UInt8} {v : UInt8} (z : List UInt8) (h : oneM sg r = .ok v r1) : oneM sg (r ++ z) = .ok v (r1 ++ z) := by
  cases r with
  | nil => cases h
  | cons b t =>
    rw [oneM] at h
    rw [List.cons_append, oneM]
    by_cases hx : b = 92
    · rw [if_pos hx] at h ⊢
      exact escM_app z h
    · rw [if_neg hx] at h ⊢
      split at h
      · rename_i hp
        injection h with h3 h4
        subst h3 h4
        rw [if_pos hp]
      · cases h
def isBack (sg : List UInt8) (x : UInt8) : Bool := match oneM sg (oneW sg x) with
  | .ok v [] => v == x
  | _ => false
theorem back_A : (List.range 256).all (fun n => isBack sgA (UInt8.ofNat n)) = true := by decide +kernel
theorem back_C : (List.range 256).all (fun n => isBack sgC (UInt8.ofNat n)) = true := by decide +kernel
theorem u8_of (x : UInt8) : UInt8.ofNat x.toNat = x := by simp
theorem of_back {sg : List UInt8} {x : UInt8} (h : isBack sg x = true) : oneM sg (oneW sg x) = .ok x [] := by
  unfold isBack at h
  split at h
  · rename_i v he
    rw [he, eq_of_beq h]
  · cases h
theorem oneA_back (x : UInt8) (r : List UInt8) : oneM sgA (oneW sgA x ++ r) = .ok x r := by
  have h := List.all_eq_true.1 back_A x.toNat (List.mem_range.2 x.toNat_lt)
  rw [u8_of] at h
  simpa using oneM_app r (of_back h)
theorem oneC_back (x : UInt8) (r : List UInt8) : oneM sgC (oneW sgC x ++ r) = .ok x r := by
  have h := List.all_eq_true.1 back_C x.toNat (List.mem_range.2 x.toNat_lt)
  rw [u8_of] at h
  simpa using oneM_app r (of_back h)
/-- What a byte's text begins with is no sign of its place. -/
def headOk (sg : List UInt8) (x : UInt8) : Bool := match oneW sg x with
  | b :: _ => (b == 92) || (!hasB sg b && decide (32 ≤ b))
  | [] => false
theorem head_A : (List.range 256).all (fun n => headOk sgA (UInt8.ofNat n)) = true := by decide +kernel
theorem head_C : (List.range 256).all (fun n => headOk sgC (UInt8.ofNat n)) = true := by decide +kernel
theorem headA (x : UInt8) : ∃ b t, oneW sgA x = b :: t ∧ (b = 92 ∨ hasB sgA b = false) := by
  have h := List.all_eq_true.1 head_A x.toNat (List.mem_range.2 x.toNat_lt)
  rw [u8_of] at h
  unfold headOk at h
  split at h
  · rename_i b t he
    refine ⟨b, t, he, ?_⟩
    simp at h
    rcases h with h | h
    · exact Or.inl h
    · exact Or.inr h.1
  · cases h
theorem headC (x : UInt8) : ∃ b t, oneW sgC x = b :: t ∧ (b = 92 ∨ hasB sgC b = false) := by
  have h := List.all_eq_true.1 head_C x.toNat (List.mem_range.2 x.toNat_lt)
  rw [u8_of] at h
  unfold headOk at h
  split at h
  · rename_i b t he
    refine ⟨b, t, he, ?_⟩
    simp at h
    rcases h with h | h
    · exact Or.inl h
    · exact Or.inr h.1
  · cases h
theorem lookC (x : UInt8) (r : List UInt8) (y : UInt8) (hy : hasB sgC y = true) (h92 : y ≠ 92) : look (oneW sgC x ++ r) ≠ y := by
  obtain ⟨b, t, he, hb⟩ := headC x
  rw [he]
  show b ≠ y
  rintro rfl
  rcases hb with hb | hb
  · exact h92 hb
  · rw [hb] at hy; cases hy

theorem S4.ext_has {s t : S4} (h : ∀ c, c < 256 → hasS s c = hasS t c) : s = t := by
  rw [← f_s4 s, ← f_s4 t]
  refine s4_congr fun j hj => ?_
  apply BitVec.eq_of_getLsbD_eq
  intro i hi
  have := h (64 * j + i) (by omega)
  unfold hasS has at this
  have e1 : (64 * j + i) / 64 = j := by omega
  have e2 : (64 * j + i) % 64 = i := by omega
  rw [e1, e2] at this
  exact this
theorem one_span (c : Nat) (hc : c < 256) : oneS c = spanS c c := S4.ext_has fun d hd => by
  rw [has_oneS c d hd, has_spanS c c d hd (Nat.le_refl _)]
  apply decide_eq_decide.2
  omega
theorem not_not (s : S4) : notS (notS s) = s := S4.ext_has fun d hd => by
  rw [notS, hasS_s4 _ _ hd, has_not]
  have : has (notS s).f d = hasS (notS s) d := rfl
  rw [this, notS, hasS_s4 _ _ hd, has_not, Bool.not_not]
  rfl
theorem has_notS (s : S4) (d : Nat) (hd : d < 256) : hasS (notS s) d = !hasS s d := by
  rw [notS, hasS_s4 _ _ hd, has_not]
  rfl
theorem upE_has (s : S4) : ∀ k u d, u < d → d ≤ upE s k u → hasS s d = true
  | 0, u, d, h1, h2 => by rw [upE] at h2; omega
  | k + 1, u, d, h1, h2 => by
    rw [upE] at h2
    split at h2
    · rename_i hu
      by_cases e : d = u + 1
      · rw [e]; exact hu.2
      · exact upE_has s k (u + 1) d (by omega) h2
    · omega
theorem endE_has (s : S4) (x d : Nat) (hx : hasS s x = true) (h1 : x ≤ d) (h2 : d ≤ endE s x) : hasS s d = true := by
  by_cases e : d = x
  · rw [e]; exact hx
  · refine upE_has s 255 x d (by omega) ?_
    unfold endE at h2
    split at h2
    · omega
    · exact h2
/-- A set is its first stretch and the rest. -/
theorem or_less (z s : S4) (x : Nat) (hx : x < 256) (h : hasS s x = true) : orS (orS z (spanS x (endE s x))) (lessS s (spanS x (endE s x))) = orS z s := S4.ext_has fun d hd => by
  rw [has_orS _ _ _ hd, has_orS _ _ _ hd, has_orS _ _ _ hd, has_lessS _ _ _ hd, has_spanS _ _ _ hd (endE_le s x)]
  by_cases hin : x ≤ d ∧ d ≤ endE s x
  · rw [decide_eq_true hin, endE_has s x d h hin.1 hin.2]
    simp
  · rw [decide_eq_false hin]
    simp

theorem lookA (x : UInt8) (r : List UInt8) (y : UInt8) (hy : hasB sgA y = true) (h92 : y ≠ 92) : look (oneW sgA x ++ r) ≠ y := by
  obtain ⟨b, t, he, hb⟩ := headA x
  rw [he]
  show b ≠ y
  rintro rfl
  rcases hb with hb | hb
  · exact h92 hb
  · rw [hb] at hy; cases hy
def strF (x e : Nat) : List UInt8 := oneW sgC (UInt8.ofNat x) ++ (if x < e then 45 :: oneW sgC (UInt8.ofNat e) else [])
theorem str_back (x e : Nat) (hx : x < 256) (he : e < 256) (hxe : x ≤ e) (r : List UInt8) (hr : look r ≠ 45) : strM (strF x e ++ r) = .ok (spanS x e) r := by
  have ex : (UInt8.ofNat x).toNat = x := by simp; omega
  have ee : (UInt8.ofNat e).toNat = e := by simp; omega
  unfold strF strM
  rw [List.append_assoc, oneC_back]
  simp only []
  by_cases h : x < e
  · rw [if_pos h, List.cons_append]
    rw [look_cons, if_pos rfl, List.tail_cons, oneC_back]
    simp only []
    rw [if_neg (by rw [UInt8.lt_iff_toNat_lt, ex, ee]; omega), ex, ee]
  · obtain rfl : x = e := by omega
    rw [if_neg h, List.nil_append, if_neg hr, ex, one_span x hx]
theorem strW_step (k : Nat) (L : S4) (c : Nat) (l : List Nat) (h : elems L.f = c :: l) : strW (k + 1) L = strF c (endE L c) ++ strW k (lessS L (spanS c (endE L c))) := by
  rw [strW_cons k L c l h, strF]
theorem strF_pos (x e : Nat) : 0 < (strF x e).length := by
  obtain ⟨b, t, he, _⟩ := headC (UInt8.ofNat x)
  rw [strF, he]
  simp
theorem look_str (k : Nat) (L : S4) (r : List UInt8) (y : UInt8) (hy : hasB sgC y = true) (h92 : y ≠ 92) (h93 : y ≠ 93) : look (strW k L ++ 93 :: r) ≠ y := by
  cases k with
  | zero => exact fun e => h93 e.symm
  | succ k =>
    cases h : elems L.f with
    | nil => rw [strW_nil _ _ h]; exact fun e => h93 e.symm
    | cons c l =>
      rw [strW_step k L c l h, strF, List.append_assoc, List.append_assoc]
      exact lookC _ _ y hy h92
theorem or_empty (z s : S4) (h : elems s.f = []) : orS z s = z := S4.ext_has fun d hd => by
  rw [has_orS _ _ _ hd]
  have : hasS s d = false := by
    cases hs : hasS s d with
    | false => rfl
    | true =>
      have := (mem_elems s.f d).2 ⟨hd, hs⟩
      rw [h] at this
      cases this
  rw [this, Bool.or_false]
theorem cls_back : ∀ (k : Nat) (L z : S4) (r : List UInt8) (f : Nat), (elems L.f).length ≤ k → (strW k L ++ 93 :: r).length < f → clsL f z (strW k L ++ 93 :: r) = .ok (orS z L) r
  | k, L, z, r, 0, _, hf => by omega
  | k, L, z, r, f + 1, hk, hf => by
    cases h : elems L.f with
    | nil =>
      rw [strW_nil _ _ h, List.nil_append, clsL, look_cons, if_pos rfl, or_empty z L h]
      rfl
    | cons c l =>
      obtain ⟨k, rfl⟩ : ∃ j, k = j + 1 := ⟨k - 1, by rw [h] at hk; simp at hk; omega⟩
      have hm := (mem_elems L.f c).1 (by rw [h]; simp)
      have hc : hasS L c = true := hm.2
      have hce := endE_le L c
      have hel := endE_lt L c hm.1
      have hlt := elems_less L (spanS c (endE L c)) c l h (by rw [has_spanS _ _ _ hm.1 hce]; simp; omega)
      have hne : look (strW (k + 1) L ++ 93 :: r) ≠ 93 := by
        rw [strW_step k L c l h, strF, List.append_assoc, List.append_assoc]
        exact lookC _ _ 93 (by decide) (by decide)
      rw [clsL, if_neg hne]
      rw [strW_step k L c l h, List.append_assoc] at hf ⊢
      rw [str_back c _ hm.1 hel hce _ (look_str k _ r 45 (by decide) (by decide) (by decide))]
      simp only []
      have hp := strF_pos c (endE L c)
      rw [cls_back k _ _ r f (by omega) (by simp at hf ⊢; omega), or_less z L c hm.1 hc]
theorem class_yes (L : S4) (hne : elems L.f ≠ []) (r : List UInt8) : clsM (strW 256 L ++ 93 :: r) = .ok L r := by
  cases h : elems L.f with
  | nil => exact absurd h hne
  | cons c l =>
    have hm := (mem_elems L.f c).1 (by rw [h]; simp)
    have hc : hasS L c = true := hm.2
    have hce := endE_le L c
    have hel := endE_lt L c hm.1
    have hle : (elems L.f).length ≤ 256 := by
      unfold elems
      exact Nat.le_trans (List.length_filter_le _ _) (by simp)
    have hlt := elems_less L (spanS c (endE L c)) c l h (by rw [has_spanS _ _ _ hm.1 hce]; simp; omega)
    have h94 : look (strW 256 L ++ 93 :: r) ≠ 94 := look_str 256 L r 94 (by decide) (by decide) (by decide)
    unfold clsM
    rw [if_neg h94, strW_step 255 L c l h, List.append_assoc, str_back c _ hm.1 hel hce _ (look_str 255 _ r 45 (by decide) (by decide) (by decide))]
    simp only []
    rw [cls_back 255 _ _ r _ (by omega) (Nat.lt_succ_self _)]
    simp only []
    have h94' : look (strF c (endE L c) ++ (strW 255 (lessS L (spanS c (endE L c))) ++ 93 :: r)) ≠ 94 := by
      rw [strF, List.append_assoc]
      exact lookC _ _ 94 (by decide) (by decide)
    rw [if_neg h94']
    have := or_less nilS L c hm.1 hc
    have e1 : orS nilS (spanS c (endE L c)) = spanS c (endE L c) := S4.ext_has fun d hd => by rw [has_orS _ _ _ hd, has_nilS d hd, Bool.false_or]
    have e2 : orS nilS L = L := S4.ext_has fun d hd => by rw [has_orS _ _ _ hd, has_nilS d hd, Bool.false_or]
    rw [e1, e2] at this
    rw [this]
theorem class_no (L : S4) (hne : elems L.f ≠ []) (r : List UInt8) : clsM (94 :: (strW 256 L ++ 93 :: r)) = .ok (notS L) r := by
  cases h : elems L.f with
  | nil => exact absurd h hne
  | cons c l =>
    have hm := (mem_elems L.f c).1 (by rw [h]; simp)
    have hc : hasS L c = true := hm.2
    have hce := endE_le L c
    have hel := endE_lt L c hm.1
    have hle : (elems L.f).length ≤ 256 := by
      unfold elems
      exact Nat.le_trans (List.length_filter_le _ _) (by simp)
    have hlt := elems_less L (spanS c (endE L c)) c l h (by rw [has_spanS _ _ _ hm.1 hce]; simp; omega)
    unfold clsM
    rw [look_cons, if_pos rfl, List.tail_cons, strW_step 255 L c l h, List.append_assoc, str_back c _ hm.1 hel hce _ (look_str 255 _ r 45 (by decide) (by decide) (by decide))]
    simp only []
    rw [cls_back 255 _ _ r _ (by omega) (Nat.lt_succ_self _)]
    simp only []
    rw [if_pos trivial]
    have := or_less nilS L c hm.1 hc
    have e1 : orS nilS (spanS c (endE L c)) = spanS c (endE L c) := S4.ext_has fun d hd => by rw [has_orS _ _ _ hd, has_nilS d hd, Bool.false_or]
    have e2 : orS nilS L = L := S4.ext_has fun d hd => by rw [has_orS _ _ _ hd, has_nilS d hd, Bool.false_or]
    rw [e1, e2] at this
    rw [this]

theorem elems_one (s : S4) (x : Nat) (h : elems s.f = [x]) : s = oneS x := S4.ext_has fun d hd => by
  rw [has_oneS x d hd]
  have := mem_elems s.f d
  rw [h, List.mem_singleton] at this
  cases hs : hasS s d with
  | true => rw [decide_eq_true (this.2 ⟨hd, hs⟩)]
  | false => rw [decide_eq_false (fun e => by have := (this.1 e).2; unfold hasS at hs; rw [hs] at this; cases this)]
theorem not_empty (s : S4) (h : (elems s.f).length < 256) : elems (notS s).f ≠ [] := fun h0 => by
  have hall : ∀ d, d < 256 → hasS s d = true := fun d hd => by
    cases hs : hasS s d with
    | true => rfl
    | false =>
      have : d ∈ elems (notS s).f := (mem_elems _ d).2 ⟨hd, by have := has_notS s d hd; rw [hs] at this; exact this⟩
      rw [h0] at this
      cases this
  have : elems s.f = List.range 256 := by
    unfold elems
    apply List.filter_eq_self.2
    intro d hd
    exact hall d (List.mem_range.1 hd)
  rw [this, List.length_range] at h
  omega
/-- A set's text, read as an atom. -/
theorem set_back (s : S4) (f : Nat) (r : List UInt8) : parM (f + 1) .atom (setW s ++ r) = .ok (.set s) r := by
  unfold setW
  split
  · rename_i h1
    obtain ⟨x, hx⟩ := List.length_eq_one_iff.1 h1
    have hx6 := ((mem_elems s.f x).1 (by rw [hx]; simp)).1
    rw [hx]
    simp only [List.headD_cons]
    rw [parM, if_neg (lookA _ _ 40 (by decide) (by decide)), if_neg (lookA _ _ 91 (by decide) (by decide)), if_neg (lookA _ _ 46 (by decide) (by decide)), oneA_back]
    simp only []
    have ex : (UInt8.ofNat x).toNat = x := by simp; omega
    rw [ex, ← elems_one s x hx]
  · rename_i h1
    split
    · rename_i hd
      rw [List.cons_append, List.nil_append, parM, look_cons, if_neg (by decide), if_neg (by decide), if_pos rfl, hd]
      rfl
    · split
      · rename_i hn
        rw [List.cons_append, parM, look_cons, if_neg (by decide), if_pos rfl, List.tail_cons, List.cons_append, List.append_assoc]
        rw [show ([93] ++ r : List UInt8) = 93 :: r from rfl, class_no (notS s) (not_empty s (by omega)) r, not_not]
      · rename_i hn
        rw [List.cons_append, parM, look_cons, if_neg (by decide), if_pos rfl, List.tail_cons, List.append_assoc]
        rw [show ([93] ++ r : List UInt8) = 93 :: r from rfl, class_yes s (fun h0 => hn (Or.inl (by rw [h0]; rfl))) r]

/-! Trees. -/
/-- Read so by all fuel that is enough. -/
def Pr (m : Md) (r : List UInt8) (v : Rx) (r' : List UInt8) : Prop := ∃ N, ∀ f, N ≤ f → parM f m r = .ok v r'
theorem Pr.ways {r r1 r' : List UInt8} {t v : Rx} (h : Pr .way r t r1) (h2 : Pr (.waysL t) r1 v r') : Pr .ways r v r' := by
  obtain ⟨N, h⟩ := h
  obtain ⟨M, h2⟩ := h2
  refine ⟨N + M + 1, fun f hf => ?_⟩
  obtain ⟨f, rfl⟩ : ∃ g, f = g + 1 := ⟨f - 1, by omega⟩
  rw [parM, h f (by omega)]
  exact h2 f (by omega)
theorem Pr.waysEnd {r : List UInt8} {t : Rx} (h : look r ≠ 124) : Pr (.waysL t) r t r := ⟨1, fun f hf => by
  obtain ⟨f, rfl⟩ : ∃ g, f = g + 1 := ⟨f - 1, by omega⟩
  rw [parM, if_neg h]⟩
theorem Pr.waysMore {r r2 r' : List UInt8} {t t2 v : Rx} (h : Pr .way r t2 r2) (h2 : Pr (.waysL (.alt t t2)) r2 v r') : Pr (.waysL t) (124 :: r) v r' := by
  obtain ⟨N, h⟩ := h
  obtain ⟨M, h2⟩ := h2
  refine ⟨N + M + 1, fun f hf => ?_⟩
  obtain ⟨f, rfl⟩ : ∃ g, f = g + 1 := ⟨f - 1, by omega⟩
  rw [parM, look_cons, if_pos rfl, List.tail_cons, h f (by omega)]
  exact h2 f (by omega)
theorem Pr.wayNil {r : List UInt8} (h : endsB r = true) : Pr .way r .nil r := ⟨1, fun f hf => by
  obtain ⟨f, rfl⟩ : ∃ g, f = g + 1 := ⟨f - 1, by omega⟩
  rw [parM, if_pos h]⟩
theorem Pr.way {r r1 r' : List UInt8} {t v : Rx} (he : endsB r = false) (h : Pr .piece r t r1) (h2 : Pr (.wayL t) r1 v r') : Pr .way r v r' := by
  obtain ⟨N, h⟩ := h
  obtain ⟨M, h2⟩ := h2
  refine ⟨N + M + 1, fun f hf => ?_⟩
  obtain ⟨f, rfl⟩ : ∃ g, f = g + 1 := ⟨f - 1, by omega⟩
  rw [parM, if_neg (by rw [he]; simp), h f (by omega)]
  exact h2 f (by omega)
theorem Pr.wayEnd {r : List UInt8} {t : Rx} (h : endsB r = true) : Pr (.wayL t) r t r := ⟨1, fun f hf => by
  obtain ⟨f, rfl⟩ : ∃ g, f = g + 1 := ⟨f - 1, by omega⟩
  rw [parM, if_pos h]⟩
theorem Pr.wayMore {r r2 r' : List UInt8} {t t2 v : Rx} (he : endsB r = false) (h : Pr .piece r t2 r2) (h2 : Pr (.wayL (.seq t t2)) r2 v r') : Pr (.wayL t) r v r' := by
  obtain ⟨N, h⟩ := h
  obtain ⟨M, h2⟩ := h2
  refine ⟨N + M + 1, fun f hf => ?_⟩
  obtain ⟨f, rfl⟩ : ∃ g, f = g + 1 := ⟨f - 1, by omega⟩
  rw [parM, if_neg (by rw [he]; simp), h f (by omega)]
  exact h2 f (by omega)
theorem Pr.piece {r r1 : List UInt8} {t : Rx} (h : Pr .atom r t r1) : Pr .piece r (reps t r1).1 (reps t r1).2 := by
  obtain ⟨N, h⟩ := h
  refine ⟨N + 1, fun f hf => ?_⟩
  obtain ⟨f, rfl⟩ : ∃ g, f = g + 1 := ⟨f - 1, by omega⟩
  rw [parM, h f (by omega)]
theorem Pr.bracket {r r1 : List UInt8} {t : Rx} (h : Pr .ways r t (41 :: r1)) : Pr .atom (40 :: r) t r1 := by
  obtain ⟨N, h⟩ := h
  refine ⟨N + 1, fun f hf => ?_⟩
  obtain ⟨f, rfl⟩ : ∃ g, f = g + 1 := ⟨f - 1, by omega⟩
  rw [parM, look_cons, if_pos rfl, List.tail_cons, h f (by omega)]
  rfl
theorem Pr.set (s : S4) (r : List UInt8) : Pr .atom (setW s ++ r) (.set s) r := ⟨1, fun f hf => by
  obtain ⟨f, rfl⟩ : ∃ g, f = g + 1 := ⟨f - 1, by omega⟩
  exact set_back s f r⟩

def goodB (b : UInt8) : Prop := b ≠ 124 ∧ b ≠ 41 ∧ b ≠ 42 ∧ b ≠ 43 ∧ b ≠ 63
theorem good_A {b : UInt8} (h : b = 92 ∨ hasB sgA b = false) : goodB b := by
  refine ⟨?_, ?_, ?_, ?_, ?_⟩ <;> (rintro rfl; revert h; decide)
theorem head_set (s : S4) : ∃ b x, setW s = b :: x ∧ goodB b := by
  unfold setW
  split
  · obtain ⟨b, t, he, hb⟩ := headA (UInt8.ofNat ((elems s.f).headD 0))
    exact ⟨b, t, he, good_A hb⟩
  · split
    · exact ⟨46, [], rfl, by unfold goodB; decide⟩
    · split
      · exact ⟨91, _, rfl, by unfold goodB; decide⟩
      · exact ⟨91, _, rfl, by unfold goodB; decide⟩
theorem head_node (least : Nat) (t : Rx) (h : ∃ b x, bareW t = b :: x ∧ goodB b) : ∃ b x, nodeOf least t (bareW t) = b :: x ∧ goodB b := by
  unfold nodeOf
  split
  · exact h
  · exact ⟨40, _, rfl, by unfold goodB; decide⟩
theorem head_bare (t : Rx) : ∃ b x, bareW t = b :: x ∧ goodB b := by
  induction t with
  | nil => exact ⟨40, [41], rfl, by unfold goodB; decide⟩
  | set s => exact head_set s
  | seq a b iha ihb => obtain ⟨c, x, h, g⟩ := head_node 1 a iha; exact ⟨c, _, by rw [bareW, h]; rfl, g⟩
  | alt a b iha ihb => obtain ⟨c, x, h, g⟩ := head_node 0 a iha; exact ⟨c, _, by rw [bareW, h]; rfl, g⟩
  | star a iha => obtain ⟨c, x, h, g⟩ := head_node 2 a iha; exact ⟨c, _, by rw [bareW, h]; rfl, g⟩
  | plus a iha => obtain ⟨c, x, h, g⟩ := head_node 2 a iha; exact ⟨c, _, by rw [bareW, h]; rfl, g⟩
def noRep (r : List UInt8) : Prop := look r ≠ 42 ∧ look r ≠ 43 ∧ look r ≠ 63
theorem node_ends (least : Nat) (t : Rx) (r : List UInt8) : endsB (nodeOf least t (bareW t) ++ r) = false ∧ noRep (nodeOf least t (bareW t) ++ r) := by
  obtain ⟨b, x, h, g⟩ := head_node least t (head_bare t)
  rw [h]
  refine ⟨?_, g.2.2.1, g.2.2.2.1, g.2.2.2.2⟩
  unfold endsB
  rw [List.cons_append, look_cons, decide_eq_false g.1, decide_eq_false g.2.1]
  simp
theorem ends_noRep {r : List UInt8} (h : endsB r = true) : noRep r := by
  unfold endsB at h
  simp only [Bool.or_eq_true, decide_eq_true_eq] at h
  rcases h with (h | h) | h
  · subst h; unfold noRep; decide
  · unfold noRep; rw [h]; decide
  · unfold noRep; rw [h]; decide
theorem reps_none (t : Rx) {r : List UInt8} (h : noRep r) : reps t r = (t, r) := by
  cases r with
  | nil => rfl
  | cons b r => rw [reps, if_neg (show ¬ b = 42 from h.1), if_neg (show ¬ b = 43 from h.2.1), if_neg (show ¬ b = 63 from h.2.2)]
def P2 (t : Rx) : Prop := ∀ r, Pr .piece (nodeOf 2 t (bareW t) ++ r) (reps t r).1 (reps t r).2
def P1 (t : Rx) : Prop := ∀ r v r', noRep r → Pr (.wayL t) r v r' → Pr .way (nodeOf 1 t (bareW t) ++ r) v r'
def P0 (t : Rx) : Prop := ∀ r v r', endsB r = true → Pr (.waysL t) r v r' → Pr .ways (nodeOf 0 t (bareW t) ++ r) v r'
theorem P2.is {t : Rx} (h : P2 t) {r : List UInt8} (hr : noRep r) : Pr .piece (nodeOf 2 t (bareW t) ++ r) t r := by
  have := h r
  rwa [reps_none t hr] at this
/-- What reads as a piece at the second level does at the first, where the text is the same. -/
theorem P1.of {t : Rx} (h : P2 t) (he : nodeOf 1 t (bareW t) = nodeOf 2 t (bareW t)) : P1 t := fun r v r' hr hw => by
  rw [he]
  exact Pr.way (node_ends 2 t r).1 (h.is hr) hw
theorem P0.of {t : Rx} (h : P1 t) (he : nodeOf 0 t (bareW t) = nodeOf 1 t (bareW t)) : P0 t := fun r v r' hr hw => by
  rw [he]
  exact Pr.ways (h r t r (ends_noRep hr) (Pr.wayEnd hr)) hw
theorem P2.of {t : Rx} (h : P0 t) (he : nodeOf 2 t (bareW t) = 40 :: (nodeOf 0 t (bareW t) ++ [41])) : P2 t := fun r => by
  rw [he, List.cons_append, List.append_assoc]
  refine Pr.piece (Pr.bracket ?_)
  exact h (41 :: r) t (41 :: r) (by unfold endsB; simp [look_cons]) (Pr.waysEnd (by rw [look_cons]; decide))
theorem par_back (t : Rx) : P2 t ∧ P1 t ∧ P0 t := by
  induction t with
  | nil =>
    have h2 : P2 .nil := fun r => by
      refine Pr.piece ?_
      show Pr .atom (40 :: 41 :: r) .nil r
      exact Pr.bracket (Pr.ways (Pr.wayNil (by unfold endsB; simp [look_cons])) (Pr.waysEnd (by rw [look_cons]; decide)))
    have h1 := P1.of h2 rfl
    exact ⟨h2, h1, P0.of h1 rfl⟩
  | set s =>
    have h2 : P2 (.set s) := fun r => Pr.piece (Pr.set s r)
    have h1 := P1.of h2 rfl
    exact ⟨h2, h1, P0.of h1 rfl⟩
  | star a iha =>
    have h2 : P2 (.star a) := fun r => by
      show Pr .piece (nodeOf 2 a (bareW a) ++ [42] ++ r) _ _
      rw [List.append_assoc]
      exact iha.1 (42 :: r)
    have h1 := P1.of h2 rfl
    exact ⟨h2, h1, P0.of h1 rfl⟩
  | plus a iha =>
    have h2 : P2 (.plus a) := fun r => by
      show Pr .piece (nodeOf 2 a (bareW a) ++ [43] ++ r) _ _
      rw [List.append_assoc]
      exact iha.1 (43 :: r)
    have h1 := P1.of h2 rfl
    exact ⟨h2, h1, P0.of h1 rfl⟩
  | seq a b iha ihb =>
    have h1 : P1 (.seq a b) := fun r v r' hr hw => by
      show Pr .way (nodeOf 1 a (bareW a) ++ nodeOf 2 b (bareW b) ++ r) v r'
      rw [List.append_assoc]
      exact iha.2.1 _ v r' (node_ends 2 b r).2 (Pr.wayMore (node_ends 2 b r).1 (ihb.1.is hr) hw)
    have h0 := P0.of h1 rfl
    exact ⟨P2.of h0 rfl, h1, h0⟩
  | alt a b iha ihb =>
    have h0 : P0 (.alt a b) := fun r v r' hr hw => by
      show Pr .ways (nodeOf 0 a (bareW a) ++ 124 :: nodeOf 1 b (bareW b) ++ r) v r'
      rw [List.append_assoc, List.cons_append]
      exact iha.2.2 _ v r' (by unfold endsB; simp [look_cons]) (Pr.waysMore (ihb.2.1 r b r (ends_noRep hr) (Pr.wayEnd hr)) hw)
    have h2 := P2.of h0 rfl
    exact ⟨h2, P1.of h2 rfl, h0⟩
/-- A tree's text is read as the tree. -/
theorem text_back (t : Rx) : Pr .ways (bareW t) t [] := by
  have := (par_back t).2.2 [] t [] rfl (Pr.waysEnd (by decide))
  rw [List.append_nil] at this
  exact this

end Go.Proofs.YteedmkokbapkgaaDoor
