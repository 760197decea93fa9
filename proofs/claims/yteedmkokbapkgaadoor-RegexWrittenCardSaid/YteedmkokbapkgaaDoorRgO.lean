/- The law's own helpers: of, takes, fails, prints; nodes that a call made. Under: math/bits' table as it was laid. -/
import Derived.Test.YteedmkokbapkgaaDoorRgEq
import Derived.Laws.IdiomStrings
set_option linter.unusedVariables false
set_option linter.unusedSimpArgs false
namespace Go.Proofs.YteedmkokbapkgaaDoor
open Go.RowKit

theorem cellsN_len (l : List RN) : (cellsN l).length = l.length * 7 := by
  induction l with
  | nil => rfl
  | cons x l ih => rw [show cellsN (x :: l) = cellsR x ++ cellsN l from rfl, List.length_append, ih]; simp [cellsR]; omega
theorem cellsN_get : ∀ (l : List RN) (i : Nat) (h : i < l.length) (j : Nat) (u : Value), (cellsR l[i])[j]? = some u → (cellsN l)[i * 7 + j]? = some u
  | x :: l, 0, h, j, u, hu => by
    rw [show cellsN (x :: l) = cellsR x ++ cellsN l from rfl]
    have hj : j < (cellsR x).length := (List.getElem?_eq_some_iff.1 hu).1
    rw [Nat.zero_mul, Nat.zero_add, List.getElem?_append_left hj]
    exact hu
  | x :: l, i + 1, h, j, u, hu => by
    rw [show cellsN (x :: l) = cellsR x ++ cellsN l from rfl]
    have h7 : (cellsR x).length = 7 := rfl
    rw [List.getElem?_append_right (by rw [h7]; omega), h7, show (i + 1) * 7 + j - 7 = i * 7 + j by omega]
    exact cellsN_get l i (by simpa using h) j u hu
/-- Nodes that a call made, as a slice that reads. -/
theorem OwnR.form {w : World} {base : Nat} {v : Value} {l : List RN} (h : OwnR w base v l) :
    ∃ A n c, v = .slice A n c ∧ Hid (l.length = n) ∧ n ≤ c ∧ c ≤ maxLen ∧ RdR w A l := by
  rcases h.2 with ⟨rfl, hn⟩ | ⟨g, cap, cur, rfl, _, hg, hnc, hcm, hcs, ht⟩
  · exact ⟨none, 0, 0, rfl, hn, Nat.le_refl _, by simp [maxLen], fun i hi => by omega⟩
  · refine ⟨some ⟨g, 0, none⟩, _, cap, rfl, rfl, hnc, hcm, fun i hi => ⟨_, rfl, fun j u hu => ?_⟩⟩
    have := World.ownsRow.cells h (g := g) rfl (i * 7 + j) u (cellsN_get l i hi j u hu)
    rw [add_mk] at this ⊢
    rw [add_mk]
    simpa [Nat.add_assoc] using this
theorem OwnR.below {w w' : World} {base : Nat} {v : Value} {l : List RN} (h : OwnR w base v l) (hb : Below w.heap.size w w') : OwnR w' base v l :=
  World.ownsRow.kept h (grown_of_below hb none) (by cases v.ownBlock <;> simp)
theorem OwnR.more {w : World} {base base' : Nat} {v : Value} {l : List RN} (h : OwnR w base v l) (hb : base' ≤ base) : OwnR w base' v l := by
  refine ⟨h.1, ?_⟩
  rcases h.2 with h | ⟨g, cap, cur, e, hg, r⟩
  · exact Or.inl h
  · exact Or.inr ⟨g, cap, cur, e, Nat.le_trans hb hg, r⟩
theorem OwnR.nil (w : World) (base : Nat) : OwnR w base (.slice none 0 0) [] := World.ownsRow_nil _ _ _ _
theorem size_rex : (Tryd.prog.info? 24).map (·.size) = some 1 := by kernel_rfl
def GotX (w : World) (l : List RN) (e : Ending) (w' : World) : Prop := ∃ v, e = .returned (.agg #[v]) ∧ OwnR w' w.heap.size v l ∧ Below w.heap.size w w'
/-- What of a text's reading is a pattern. -/
def okE (p : List RN × Nat × Nat) : List RN := if p.2.2 = 0 then p.1 else []

set_option maxRecDepth 20000 in
set_option maxHeartbeats 1000000 in
theorem law_of (s : List UInt8) (hs : s.length ≤ 1024) (f : Nat) (hf : parM f .ways s ≠ .out) (w : World) : Calls Tryd.prog 32 #[.string ⟨s.toArray⟩] w (GotX w (okE (ParseE s (ReadE (parM f .ways s))))) := by
  generalize hQ : GotX w (okE (ParseE s (ReadE (parM f .ways s)))) = Q
  have HQ := Lib.hid hQ
  clear hQ
  have bA := bl_alloc (Below.refl w.heap.size w) (.cells #[.slice none 0 0] 24)
  have k1 : (w.alloc (.cells #[.slice none 0 0] 24)).heap[w.heap.size]? = some (.cells #[.slice none 0 0] 24 (0, 0)) := heap_alloc_new w _
  have hs1 : (w.alloc (.cells #[.slice none 0 0] 24)).heap.size = w.heap.size + 1 := by simp
  go_enter Tryd.func32, Tryd.ntmps32
  go_wp2_with fail
  refine (parse_short s hs f hf _).mono ?_
  generalize ParseE s (ReadE (parM f .ways s)) = p at *
  obtain ⟨l, at', er⟩ := p
  rintro e w2 ⟨v, rfl, ho, hb2⟩
  rw [hs1] at ho
  simp only [] at ho
  obtain ⟨A, n, c, rfl, HLN, hnc, hcm, hrd⟩ := ho.form
  have HO := Lib.hid (ho.more (show w.heap.size ≤ w.heap.size + 1 by omega))
  have k2 := (hb2.block w.heap.size (by simp)).trans k1
  have b2 := bl_trans bA hb2
  have f2 := frozen_of_row w2 w.heap.size 0 _ _ k2
  have c2 : w2.cell? ⟨w.heap.size, 0, none⟩ = some (.slice none 0 0) := cell_of_row w2 _ 0 _ _ _ k2
  have hlt2 := (Array.getElem?_eq_some_iff.1 k2).1
  have b3 := bl_alloc b2 (.cells #[.slice A n c] 24)
  have k3 := (Below.heap_alloc w2 (.cells #[.slice A n c] 24) w.heap.size hlt2).trans k2
  have f3 := frozen_of_row _ w.heap.size 0 _ _ k3
  have c3 : (w2.alloc (.cells #[.slice A n c] 24)).cell? ⟨w.heap.size, 0, none⟩ = some (.slice none 0 0) := cell_of_row _ _ 0 _ _ _ k3
  have hne : (Value.slice A n c).ownBlock ≠ some w.heap.size := fun e => by
    have := (World.ownsRow.lt ho _ e).1
    omega
  have fin : ∀ (z : Value) (u : List RN), OwnR w2 w.heap.size z u → z.ownBlock ≠ some w.heap.size → OwnR ((w2.setCell ⟨w.heap.size, 0, none⟩ z).alloc (.cells #[.slice A n c] 24)) w.heap.size z u ∧ Below w.heap.size w ((w2.setCell ⟨w.heap.size, 0, none⟩ z).alloc (.cells #[.slice A n c] 24)) ∧
      ((w2.setCell ⟨w.heap.size, 0, none⟩ z).alloc (.cells #[.slice A n c] 24)).heap[w.heap.size]? = some (.cells #[z] 24 (0, 0)) := fun z u hz hzn => by
    have h1 : OwnR (w2.setCell ⟨w.heap.size, 0, none⟩ z) w.heap.size z u := World.ownsRow.kept hz (grown_set w2 w.heap.size 0 z) (Or.inr hzn)
    have h2 := heap_setCell_same w2 w.heap.size 0 _ _ z k2
    refine ⟨h1.below (bl_alloc (Below.refl _ _) _), bl_alloc (bl_grown b2 (grown_set w2 w.heap.size 0 z) (fun k e => by cases e; exact Nat.le_refl _)) _, ?_⟩
    exact (Below.heap_alloc _ _ _ (Array.getElem?_eq_some_iff.1 h2).1).trans h2
  have FIN := Lib.hid fin
  have HNE := Lib.hid hne
  clear fin hne ho hrd bA k1 k2 k3 b2 hb2 b3
  by_cases he : er = 0
  · subst he
    go_wp2_with fail
    obtain ⟨x1, x2, x3⟩ := FIN.out (.slice A n c) l HO.out HNE.out
    refine bodyPost_ret (v := .agg #[.slice A n c]) (results_cell_row rfl _ _ w.heap.size 24 _ (0, 0) _ rfl x3 Tryd.underlying24 rfl (by rw [size_rex]; rfl)) rfl (post_is HQ ?_)
    exact ⟨_, rfl, x1, x2⟩
  · have e1 : ((er : Int) == 0) = false := by simp; omega
    go_wp2_with fail
    obtain ⟨x1, x2, x3⟩ := FIN.out (.slice none 0 0) [] (OwnR.nil _ _) (by simp [Value.ownBlock])
    refine bodyPost_ret (v := .agg #[.slice none 0 0]) (results_cell_row rfl _ _ w.heap.size 24 _ (0, 0) _ rfl x3 Tryd.underlying24 rfl (by rw [size_rex]; rfl)) rfl (post_is HQ ?_)
    refine ⟨_, rfl, ?_, x2⟩
    rw [okE, if_neg he]
    exact x1

/-- Bytes out of a word: where they lie. -/
theorem rd_row_of (w : World) (l : List UInt8) (cap : Nat) (fr : Nat × Nat) (hc : l.length ≤ cap) : Rd (w.drew.alloc (.cells (bytesRow ⟨l.toArray⟩ cap) 5 fr)) (some ⟨w.heap.size, 0, none⟩) l := fun h0 => by
  refine ⟨_, rfl, fun j hj => ?_⟩
  rw [add_mk, Nat.zero_add]
  show (w.drew.alloc (.cells (bytesRow ⟨l.toArray⟩ cap) 5 fr)).cell? ⟨w.drew.heap.size, j, none⟩ = _
  rw [cell_of_row _ _ j _ 5 fr (heap_alloc_new w.drew _)]
  unfold bytesRow
  rw [Array.getElem?_append_left (by simp; omega)]
  simp [hj, bv]
/-- '[]byte(s)'. -/
theorem bytes_of (w : World) (l : List UInt8) (hl : l.length ≤ maxLen) : ∃ cap w', l.length ≤ cap ∧ cap ≤ 9223372036854775807 ∧ Below w.heap.size w w' ∧ Rd w' (some ⟨w.heap.size, 0, none⟩) l ∧
    (convert 9 35 (.string ⟨l.toArray⟩)).run Tryd.prog w = .ok (.slice (some ⟨w.heap.size, 0, none⟩) l.length cap) w' := by
  have h := run_bytes_of_string (P := Tryd.prog) w 9 35 5 ⟨l.toArray⟩ Tryd.underlying9 Tryd.underlying35 Tryd.underlying5
  have hs : (⟨l.toArray⟩ : ByteArray).size = l.length := by show l.toArray.size = _; simp
  rw [hs] at h
  have g1 := grownCap_ge w l.length 0 5
  have g2 := grownCap_le_maxLen w l.length 0 5 hl
  refine ⟨_, _, g1, by simpa only [maxLen] using g2, bl_alloc (Below.drew (Below.refl _ _)) _, rd_row_of w l _ _ g1, h⟩

set_option maxRecDepth 20000 in
set_option maxHeartbeats 1000000 in
theorem law_takes (s t : List UInt8) (hs : s.length ≤ 1024) (ht : t.length ≤ 100000) (f : Nat) (hf : parM f .ways s ≠ .out) (w : World) (hT : Tab w) : Calls Tryd.prog 25 #[.string ⟨s.toArray⟩, .string ⟨t.toArray⟩] w (GotB w (decide ((takesE (okE (ParseE s (ReadE (parM f .ways s)))) t).2 = 0) && (takesE (okE (ParseE s (ReadE (parM f .ways s)))) t).1)) := by
  have hof := law_of s hs f hf w
  generalize okE (ParseE s (ReadE (parM f .ways s))) = l at *
  generalize hQ : GotB w (decide ((takesE l t).2 = 0) && (takesE l t).1) = Q
  have HQ := Lib.hid hQ
  have HOF := Lib.hid hof
  clear hQ hof hf
  go_enter Tryd.func25, Tryd.ntmps25
  go_wp2_with fail
  refine HOF.out.mono ?_
  rintro e w2 ⟨v, rfl, ho, hb2⟩
  obtain ⟨A, n, c, rfl, HLN, hnc, hcm, hrd⟩ := ho.form
  obtain ⟨cap, w3, hc1, hc2, hb3, hrt, hcv⟩ := bytes_of w2 t (by unfold maxLen; omega)
  have HR := Lib.hid (hrd.below hb3)
  have HRT := Lib.hid hrt
  have HB3 := Lib.hid (bl_trans hb2 hb3)
  have HT3 := Lib.hid (hT.below (bl_trans hb2 hb3))
  clear ho hrd hb2 hb3 hrt hT HOF
  go_wp2_with fail
  clear hcv
  refine (takes_all l A n c _ t.length cap t HLN.out rfl _ HT3.out HR.out HRT.out hnc).mono ?_
  rintro e w4 ⟨rfl, hb4⟩
  have HB4 := Lib.hid (bl_trans HB3.out hb4)
  clear hb4
  generalize takesE l t = r at *
  obtain ⟨b, k⟩ := r
  cases k with
  | zero =>
    go_wp2_with fail
    refine post_is HQ ⟨?_, HB4.out⟩
    simp
  | succ k =>
    have e1 : (((k + 1 : Nat) : Int) == 0) = false := by simp; omega
    go_wp2_with fail
    refine post_is HQ ⟨?_, HB4.out⟩
    simp

def failsE (p : List RN × Nat × Nat) (k : Nat) : Bool := decide (p.2.2 = 90) && decide (p.2.1 = k) && decide (p.1.length = 0)
set_option maxRecDepth 20000 in
set_option maxHeartbeats 1000000 in
theorem law_fails (s : List UInt8) (hs : s.length ≤ 1024) (k : Nat) (f : Nat) (hf : parM f .ways s ≠ .out) (w : World) : Calls Tryd.prog 34 #[.string ⟨s.toArray⟩, .int .i64 (k : Int)] w (GotB w (failsE (ParseE s (ReadE (parM f .ways s))) k)) := by
  have hp := parse_short s hs f hf w
  generalize ParseE s (ReadE (parM f .ways s)) = p at *
  generalize hQ : GotB w (failsE p k) = Q
  have HQ := Lib.hid hQ
  have HP := Lib.hid hp
  clear hQ hp hf
  go_enter Tryd.func34, Tryd.ntmps34
  go_wp2_with fail
  refine HP.out.mono ?_
  obtain ⟨l, at', er⟩ := p
  rintro e w2 ⟨v, rfl, ho, hb2⟩
  obtain ⟨A, n, c, rfl, HLN, hnc, hcm, hrd⟩ := ho.form
  have HB3 := Lib.hid (bl_alloc hb2 (.cells #[.slice A n c] 24))
  simp only [] at HLN
  clear ho hrd hb2 HP
  by_cases h1 : er = 90
  · subst h1
    by_cases h2 : at' = k
    · subst h2
      by_cases h3 : n = 0
      · subst h3
        go_wp2_with fail
        refine post_is HQ ⟨?_, HB3.out⟩
        rw [failsE, HLN.out]
        simp
      · have e3 : ((n : Int) == 0) = false := by simp; omega
        go_wp2_with fail
        refine post_is HQ ⟨?_, HB3.out⟩
        rw [failsE, HLN.out]
        simp [h3]
    · have e2 : ((at' : Int) == (k : Int)) = false := by simp; omega
      go_wp2_with fail
      refine post_is HQ ⟨?_, HB3.out⟩
      rw [failsE]
      simp [h2]
  · have e1 : ((er : Int) == 90) = false := by simp; omega
    go_wp2_with fail
    refine post_is HQ ⟨?_, HB3.out⟩
    rw [failsE]
    simp [h1]

def printE (t : Rx) : List UInt8 × Nat := if 1024 < (bareW t).length then ([], 5) else (bareW t, 0)
theorem str_eq (a b : List UInt8) : ((⟨a.toArray⟩ : ByteArray) == ⟨b.toArray⟩) = (a == b) := by
  show ((a.toArray : Array UInt8) == b.toArray) = (a == b)
  simp
set_option maxRecDepth 20000 in
set_option maxHeartbeats 1000000 in
theorem law_prints (t : Rx) (A : Option Addr) (n c : Nat) (hn : t.size = n) (hn2 : n ≤ 256) (want : List UInt8) (w : World) (hT : Tab w) (hr : RdR w A (flat 0 t)) (hc : n ≤ c) :
    Calls Tryd.prog 35 #[.agg #[.slice A n c], .string ⟨want.toArray⟩] w (GotB w (decide ((printE t).2 = 0) && (printE t).1 == want)) := by
  have hb := bl_alloc (Below.refl w.heap.size w) (.cells #[.slice A n c] 24)
  have hp := print_tree t A n c hn hn2 (w.alloc (.cells #[.slice A n c] 24)) (hT.below hb) (hr.below hb) hc
  rw [show (if 1024 < (bareW t).length then (([], 5) : List UInt8 × Nat) else (bareW t, 0)) = printE t from rfl] at hp
  generalize hQ : GotB w (decide ((printE t).2 = 0) && (printE t).1 == want) = Q
  have HQ := Lib.hid hQ
  have HP := Lib.hid hp
  have HB := Lib.hid hb
  clear hQ hp hb hT hr
  generalize printE t = r at *
  obtain ⟨x, k⟩ := r
  go_enter Tryd.func35, Tryd.ntmps35
  go_wp2_with fail
  refine HP.out.mono ?_
  rintro e w2 ⟨rfl, hb2⟩
  have HB2 := Lib.hid (bl_trans HB.out hb2)
  clear hb2 HP HB
  by_cases h1 : k = 0
  · subst h1
    by_cases h2 : x = want
    · subst h2
      go_wp2_with fail
      refine post_is HQ ⟨?_, HB2.out⟩
      simp
    · have e2 : ((⟨x.toArray⟩ : ByteArray) == ⟨want.toArray⟩) = false := by rw [str_eq]; simpa using h2
      go_wp2_with fail
      refine post_is HQ ⟨?_, HB2.out⟩
      simp [h2]
  · have e1 : ((k : Int) == 0) = false := by simp; omega
    go_wp2_with fail
    refine post_is HQ ⟨?_, HB2.out⟩
    simp [h1]

end Go.Proofs.YteedmkokbapkgaaDoor
