/- Plain facts for RegexWritten: bytes written as escapes, one behind the other, in brackets, and as a class, and what such patterns take. No program in it but the law's takes at a text whose tree is known. -/
import Derived.Test.YteedmkokbapkgaaDoorRgPs
set_option linter.unusedVariables false
set_option linter.unusedSimpArgs false
namespace Go.Proofs.YteedmkokbapkgaaDoor
open Go.RowKit

/-- A byte as an escape of two digits. -/
def hx (x : UInt8) : List UInt8 := [92, 120, dgts.getD (x.toNat / 16) 0, dgts.getD (x.toNat % 16) 0]
def hxs : List UInt8 → List UInt8
  | [] => []
  | x :: l => hx x ++ hxs l
theorem hxs_app (a b : List UInt8) : hxs (a ++ b) = hxs a ++ hxs b := by
  induction a with
  | nil => rfl
  | cons x a ih => rw [List.cons_append, hxs, hxs, ih, List.append_assoc]
theorem hx_len (x : UInt8) : (hx x).length = 4 := rfl
theorem hxs_len (l : List UInt8) : (hxs l).length = 4 * l.length := by
  induction l with
  | nil => rfl
  | cons x l ih => rw [hxs, List.length_append, hx_len, ih, List.length_cons]; omega
def isHx (sg : List UInt8) (x : UInt8) : Bool := decide (oneM sg (hx x) = .ok x [])
theorem hx_A : (List.range 256).all (fun n => isHx sgA (UInt8.ofNat n)) = true := by decide +kernel
theorem hx_C : (List.range 256).all (fun n => isHx sgC (UInt8.ofNat n)) = true := by decide +kernel
theorem hxA (x : UInt8) (r : List UInt8) : oneM sgA (hx x ++ r) = .ok x r := by
  have h := List.all_eq_true.1 hx_A x.toNat (List.mem_range.2 (by have := x.toNat_lt; omega))
  rw [u8_of] at h
  exact oneM_app r (of_decide_eq_true h)
theorem hxC (x : UInt8) (r : List UInt8) : oneM sgC (hx x ++ r) = .ok x r := by
  have h := List.all_eq_true.1 hx_C x.toNat (List.mem_range.2 (by have := x.toNat_lt; omega))
  rw [u8_of] at h
  exact oneM_app r (of_decide_eq_true h)
theorem look_hx (x : UInt8) (r : List UInt8) : look (hx x ++ r) = 92 := rfl
theorem look_hxs (l r : List UInt8) : look (hxs l ++ r) = 92 ∨ l = [] := by
  cases l with
  | nil => exact Or.inr rfl
  | cons x l => exact Or.inl rfl

/-! One behind the other. -/
def wayT : Rx → List UInt8 → Rx
  | t, [] => t
  | t, x :: l => wayT (.seq t (.set (oneS x.toNat))) l
def hxT : List UInt8 → Rx
  | [] => .nil
  | x :: l => wayT (.set (oneS x.toNat)) l
theorem wayT_size : ∀ (l : List UInt8) (t : Rx), (wayT t l).size = t.size + 2 * l.length
  | [], t => rfl
  | x :: l, t => by rw [wayT, wayT_size l, List.length_cons]; simp only [Rx.size]; omega
theorem hxT_size (l : List UInt8) : (hxT l).size ≤ 2 * l.length + 1 := by
  cases l with
  | nil => simp [hxT, Rx.size]
  | cons x l => rw [hxT, wayT_size, List.length_cons]; simp only [Rx.size]; omega
theorem mt_set (s : S4) (w : List UInt8) : Mt (.set s) w ↔ ∃ c : UInt8, w = [c] ∧ hasS s c.toNat = true := by
  constructor
  · intro h
    cases h with
    | set _ c h => exact ⟨c, rfl, h⟩
  · rintro ⟨c, rfl, h⟩
    exact .set s c h
theorem mt_one (x : UInt8) (w : List UInt8) : Mt (.set (oneS x.toNat)) w ↔ w = [x] := by
  rw [mt_set]
  constructor
  · rintro ⟨c, rfl, h⟩
    rw [has_oneS _ _ (by have := c.toNat_lt; omega), decide_eq_true_iff] at h
    rw [UInt8.toNat_inj.1 h]
  · rintro rfl
    exact ⟨x, rfl, by rw [has_oneS _ _ (by have := x.toNat_lt; omega)]; simp⟩
theorem mt_wayT : ∀ (l : List UInt8) (t : Rx) (w : List UInt8), Mt (wayT t l) w ↔ ∃ u, w = u ++ l ∧ Mt t u
  | [], t, w => by rw [wayT]; exact ⟨fun h => ⟨w, (List.append_nil w).symm, h⟩, fun ⟨u, h1, h2⟩ => by rw [List.append_nil] at h1; rw [h1]; exact h2⟩
  | x :: l, t, w => by
    rw [wayT, mt_wayT l]
    constructor
    · rintro ⟨u, rfl, h⟩
      obtain ⟨a, b, rfl, h1, h2⟩ := mt_seq.1 h
      obtain rfl := (mt_one x b).1 h2
      exact ⟨a, by rw [List.append_assoc]; rfl, h1⟩
    · rintro ⟨u, rfl, h⟩
      exact ⟨u ++ [x], by rw [List.append_assoc]; rfl, mt_seq.2 ⟨u, [x], rfl, h, (mt_one x [x]).2 rfl⟩⟩
theorem mt_hxT (l w : List UInt8) : Mt (hxT l) w ↔ w = l := by
  cases l with
  | nil => exact ⟨fun h => by cases h; rfl, fun h => by rw [h]; exact .nil⟩
  | cons x l =>
    rw [hxT, mt_wayT]
    constructor
    · rintro ⟨u, rfl, h⟩
      rw [(mt_one x u).1 h]; rfl
    · rintro rfl
      exact ⟨[x], rfl, (mt_one x [x]).2 rfl⟩
theorem tk_hxT (l w : List UInt8) : tk (hxT l) w = decide (w = l) := by
  rw [Bool.eq_iff_iff, tk_iff, mt_hxT, decide_eq_true_iff]
theorem noRep_hxs (l : List UInt8) {r : List UInt8} (h : endsB r = true) : noRep (hxs l ++ r) := by
  rcases look_hxs l r with h1 | rfl
  · exact ⟨by rw [h1]; decide, by rw [h1]; decide, by rw [h1]; decide⟩
  · exact ends_noRep h
theorem ends_hx (x : UInt8) (r : List UInt8) : endsB (hx x ++ r) = false := rfl
theorem pr_atom (x : UInt8) (r : List UInt8) : Pr .atom (hx x ++ r) (.set (oneS x.toNat)) r := ⟨1, fun f hf => by
  obtain ⟨f, rfl⟩ : ∃ g, f = g + 1 := ⟨f - 1, by omega⟩
  rw [parM, if_neg (by rw [look_hx]; decide), if_neg (by rw [look_hx]; decide), if_neg (by rw [look_hx]; decide), hxA]⟩
theorem pr_piece (x : UInt8) {r : List UInt8} (hr : noRep r) : Pr .piece (hx x ++ r) (.set (oneS x.toNat)) r := by
  have h := Pr.piece (pr_atom x r)
  rwa [reps_none _ hr] at h
theorem pr_wayL : ∀ (l : List UInt8) (t : Rx) (r : List UInt8), endsB r = true → Pr (.wayL t) (hxs l ++ r) (wayT t l) r
  | [], t, r, h => Pr.wayEnd h
  | x :: l, t, r, h => by
    rw [hxs, List.append_assoc, wayT]
    exact Pr.wayMore (ends_hx x _) (pr_piece x (noRep_hxs l h)) (pr_wayL l _ r h)
theorem pr_way (l : List UInt8) (r : List UInt8) (h : endsB r = true) : Pr .way (hxs l ++ r) (hxT l) r := by
  cases l with
  | nil => exact Pr.wayNil h
  | cons x l =>
    rw [hxs, List.append_assoc, hxT]
    exact Pr.way (ends_hx x _) (pr_piece x (noRep_hxs l h)) (pr_wayL l _ r h)
theorem pr_all (l : List UInt8) : Pr .ways (hxs l) (hxT l) [] := by
  have h := Pr.ways (pr_way l [] rfl) (Pr.waysEnd (by decide))
  rwa [List.append_nil] at h
theorem pr_one {r : List UInt8} {t : Rx} (he : endsB r = false) (h : Pr .atom r t []) : Pr .ways r t [] := by
  have h1 : Pr .piece r t [] := Pr.piece h
  exact Pr.ways (Pr.way he h1 (Pr.wayEnd rfl)) (Pr.waysEnd (by decide))
theorem pr_br (l : List UInt8) : Pr .ways (40 :: (hxs l ++ [41])) (hxT l) [] :=
  pr_one rfl (Pr.bracket (Pr.ways (pr_way l [41] rfl) (Pr.waysEnd (by decide))))

/-! As a class. -/
def orL : S4 → List UInt8 → S4
  | z, [] => z
  | z, x :: l => orL (orS z (oneS x.toNat)) l
theorem has_orL (c : UInt8) : ∀ (l : List UInt8) (z : S4), hasS (orL z l) c.toNat = (hasS z c.toNat || l.any fun x => x == c)
  | [], z => by simp [orL]
  | x :: l, z => by
    rw [orL, has_orL c l, has_orS _ _ _ (by have := c.toNat_lt; omega), has_oneS _ _ (by have := c.toNat_lt; omega), List.any_cons, Bool.or_assoc]
    congr 2
    rw [Bool.eq_iff_iff, decide_eq_true_iff, beq_iff_eq, UInt8.toNat_inj, eq_comm]
theorem str_hx (x : UInt8) (r : List UInt8) (hr : look r ≠ 45) : strM (hx x ++ r) = .ok (oneS x.toNat) r := by
  rw [strM, hxC]
  simp only [hr, if_false]
theorem look_more (l r : List UInt8) : look (hxs l ++ 93 :: r) ≠ 45 := by
  rcases look_hxs l (93 :: r) with h | rfl
  · rw [h]; decide
  · show (93 : UInt8) ≠ 45; decide
theorem cls_hx : ∀ (l : List UInt8) (z : S4) (r : List UInt8) (f : Nat), l.length < f → clsL f z (hxs l ++ 93 :: r) = .ok (orL z l) r
  | [], z, r, f, hf => by
    obtain ⟨f, rfl⟩ : ∃ g, f = g + 1 := ⟨f - 1, by omega⟩
    rw [clsL, if_pos (show look (hxs [] ++ 93 :: r) = 93 from rfl)]; rfl
  | x :: l, z, r, f, hf => by
    obtain ⟨f, rfl⟩ : ∃ g, f = g + 1 := ⟨f - 1, by omega⟩
    rw [List.length_cons] at hf
    rw [clsL, hxs, List.append_assoc, if_neg (by rw [look_hx]; decide), str_hx _ _ (look_more l r)]
    exact cls_hx l _ r f (by omega)
def hxS (l : List UInt8) : S4 := match l with
  | [] => nilS
  | x :: l => orL (oneS x.toNat) l
theorem has_hxS (l : List UInt8) (c : UInt8) : hasS (hxS l) c.toNat = l.any fun x => x == c := by
  cases l with
  | nil => rw [hxS, has_nilS _ (by have := c.toNat_lt; omega)]; rfl
  | cons x l =>
    rw [hxS, has_orL, has_oneS _ _ (by have := c.toNat_lt; omega), List.any_cons]
    congr 1
    rw [Bool.eq_iff_iff, decide_eq_true_iff, beq_iff_eq, UInt8.toNat_inj, eq_comm]
theorem cls_yes (l : List UInt8) (hl : l ≠ []) (r : List UInt8) : clsM (hxs l ++ 93 :: r) = .ok (hxS l) r := by
  cases l with
  | nil => exact absurd rfl hl
  | cons x l =>
    have h0 : ¬ look (hx x ++ (hxs l ++ 93 :: r)) = 94 := by rw [look_hx]; decide
    rw [hxs, List.append_assoc, clsM, if_neg h0, str_hx _ _ (look_more l r)]
    simp only []
    rw [cls_hx l _ r _ (by rw [List.length_append, hxs_len]; omega)]
    simp only [h0, if_false]
    rfl
theorem cls_no (l : List UInt8) (hl : l ≠ []) (r : List UInt8) : clsM (94 :: (hxs l ++ 93 :: r)) = .ok (notS (hxS l)) r := by
  cases l with
  | nil => exact absurd rfl hl
  | cons x l =>
    have h0 : look (94 :: (hx x ++ (hxs l ++ 93 :: r))) = 94 := rfl
    rw [hxs, List.append_assoc, clsM, if_pos h0, List.tail_cons, str_hx _ _ (look_more l r)]
    simp only []
    rw [cls_hx l _ r _ (by rw [List.length_append, hxs_len]; omega)]
    simp only [h0, if_true]
    rfl
theorem pr_cls {r : List UInt8} {s : S4} (h : clsM r = .ok s []) : Pr .ways (91 :: r) (.set s) [] := pr_one rfl ⟨1, fun f hf => by
  obtain ⟨f, rfl⟩ : ∃ g, f = g + 1 := ⟨f - 1, by omega⟩
  rw [parM, if_neg (by show (91 : UInt8) ≠ 40; decide), if_pos (show look (91 :: r) = 91 from rfl), List.tail_cons, h]⟩
theorem pr_yes (l : List UInt8) (hl : l ≠ []) : Pr .ways (91 :: (hxs l ++ [93])) (.set (hxS l)) [] := pr_cls (cls_yes l hl [])
theorem pr_no (l : List UInt8) (hl : l ≠ []) : Pr .ways (91 :: 94 :: (hxs l ++ [93])) (.set (notS (hxS l))) [] := pr_cls (cls_no l hl [])
theorem tk_set (s : S4) (c : UInt8) : tk (.set s) [c] = hasS s c.toNat := by
  rw [Bool.eq_iff_iff, tk_iff, mt_set]
  constructor
  · rintro ⟨d, h, hd⟩
    injection h with h _
    rw [h]; exact hd
  · intro h; exact ⟨c, rfl, h⟩
theorem tk_yes (l : List UInt8) (c : UInt8) : tk (.set (hxS l)) [c] = l.any fun x => x == c := by rw [tk_set, has_hxS]
theorem tk_no (l : List UInt8) (c : UInt8) : tk (.set (notS (hxS l))) [c] = !(l.any fun x => x == c) := by
  rw [tk_set, has_notS _ _ (by have := c.toNat_lt; omega), has_hxS]

/-- The law's takes, at a text whose tree is known. -/
theorem takes_known (s t : List UInt8) (tr : Rx) (h : Pr .ways s tr []) (hs : s.length ≤ 1024) (hsz : tr.size ≤ 256) (ht : t.length ≤ 8192) (w : World) (hT : Tab w) :
    Calls Tryd.prog 25 #[.string ⟨s.toArray⟩, .string ⟨t.toArray⟩] w (GotB w (tk tr t)) := by
  obtain ⟨N, hN⟩ := h
  have h0 := hN N (Nat.le_refl _)
  have hl := law_takes s t hs (by omega) N (by rw [h0]; simp) w hT
  rw [h0, ReadE, ParseE, if_neg (by omega)] at hl
  rw [show okE (flat 0 tr, 0, 0) = flat 0 tr from rfl, takes_tk tr t hsz (by omega)] at hl
  simpa using hl

end Go.Proofs.YteedmkokbapkgaaDoor
