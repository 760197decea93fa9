/- Machines of nets: classes of bytes; the states that are found one by one; what a run comes to. No program in it. -/
import Derived.Test.YtcgfogdfcdndgaaGreatDoorNfTkQ
set_option linter.unusedVariables false
set_option linter.unusedSimpArgs false
namespace Go.Proofs.YtcgfogdfcdndgaaGreatDoor

/-! Classes. -/
def sameC (E : List Ed) (a b : Nat) : Bool := E.all fun e => hasS e.set a == hasS e.set b
theorem same_iff {E : List Ed} {a b : Nat} : sameC E a b = true ↔ ∀ e ∈ E, hasS e.set a = hasS e.set b := by
  unfold sameC
  rw [List.all_eq_true]
  exact forall_congr' fun e => forall_congr' fun _ => beq_iff_eq
theorem same_refl (E : List Ed) (a : Nat) : sameC E a a = true := same_iff.2 fun _ _ => rfl
theorem same_symm {E : List Ed} {a b : Nat} (h : sameC E a b = true) : sameC E b a = true := same_iff.2 fun e he => (same_iff.1 h e he).symm
theorem same_trans {E : List Ed} {a b c : Nat} (h : sameC E a b = true) (h2 : sameC E b c = true) : sameC E a c = true := same_iff.2 fun e he => (same_iff.1 h e he).trans (same_iff.1 h2 e he)
def leastC (E : List Ed) (c : Nat) : Bool := (List.range c).all fun b => !sameC E b c
def leastsE (E : List Ed) : List Nat := (List.range 256).filter (leastC E)
theorem least_iff {E : List Ed} {c : Nat} : leastC E c = true ↔ ∀ b, b < c → sameC E b c = false := by
  unfold leastC
  rw [List.all_eq_true]
  constructor
  · intro h b hb
    simpa using h b (List.mem_range.2 hb)
  · intro h b hb
    simpa using h b (List.mem_range.1 hb)
theorem mem_leasts {E : List Ed} {c : Nat} : c ∈ leastsE E ↔ c < 256 ∧ ∀ b, b < c → sameC E b c = false := by
  unfold leastsE
  rw [List.mem_filter, List.mem_range, least_iff]
theorem least_of (E : List Ed) (c : Nat) : ∃ b, b ≤ c ∧ sameC E b c = true ∧ ∀ a, a < b → sameC E a b = false := by
  induction c using Nat.strongRecOn with
  | ind c ih =>
    by_cases h : ∃ b, b < c ∧ sameC E b c = true
    · obtain ⟨b, hb, h⟩ := h
      obtain ⟨a, h1, h2, h3⟩ := ih b hb
      exact ⟨a, by omega, same_trans h2 h, h3⟩
    · refine ⟨c, Nat.le_refl _, same_refl E c, fun a ha => ?_⟩
      cases hs : sameC E a c with
      | false => rfl
      | true => exact absurd ⟨a, ha, hs⟩ h
def classE (E : List Ed) (c : Nat) : Nat := (leastsE E).findIdx fun b => sameC E b c
theorem class_lt (E : List Ed) {c : Nat} (hc : c < 256) : classE E c < (leastsE E).length := by
  obtain ⟨b, h1, h2, h3⟩ := least_of E c
  exact List.findIdx_lt_length_of_exists ⟨b, mem_leasts.2 ⟨by omega, h3⟩, h2⟩
theorem class_same (E : List Ed) {c : Nat} (hc : c < 256) : sameC E ((leastsE E)[classE E c]'(class_lt E hc)) c = true :=
  List.findIdx_getElem (xs := leastsE E) (p := fun b => sameC E b c) (w := class_lt E hc)
theorem leasts_len (E : List Ed) : 1 ≤ (leastsE E).length ∧ (leastsE E).length ≤ 256 := by
  constructor
  · have := class_lt E (c := 0) (by omega)
    omega
  · have h := List.length_filter_le (leastC E) (List.range 256)
    rw [List.length_range] at h
    exact h

def toD (S : Nat) (E : List Ed) (c : Nat) (l : List Nat) : List Nat := closeL S E (stepL S E c l)
/-! The states that are found. -/
def valD (F : List (List Nat)) (l : List Nat) : Int := if l = [] then -1 else (F.idxOf l : Int)
def putD (F : List (List Nat)) (l : List Nat) : List (List Nat) := if l = [] then F else if l ∈ F then F else F ++ [l]
def rowD (S : Nat) (E : List Ed) (l : List Nat) (F : List (List Nat)) (cs : List Nat) : List (List Nat) := cs.foldl (fun F c => putD F (toD S E c l)) F
theorem put_pre (F : List (List Nat)) (l : List Nat) : F <+: putD F l := by
  unfold putD
  split
  · exact List.prefix_refl _
  · split
    · exact List.prefix_refl _
    · exact List.prefix_append _ _
theorem put_mem {F : List (List Nat)} {l : List Nat} (h : l ≠ []) : l ∈ putD F l := by
  unfold putD
  rw [if_neg h]
  split
  · assumption
  · simp
theorem mem_putD {F : List (List Nat)} {l x : List Nat} (h : x ∈ putD F l) : x ∈ F ∨ (x = l ∧ l ≠ []) := by
  unfold putD at h
  split at h
  · exact Or.inl h
  · rename_i h0
    split at h
    · exact Or.inl h
    · rcases List.mem_append.1 h with h | h
      · exact Or.inl h
      · exact Or.inr ⟨List.mem_singleton.1 h, h0⟩
theorem put_nodup {F : List (List Nat)} {l : List Nat} (h : F.Nodup) : (putD F l).Nodup := by
  unfold putD
  split
  · exact h
  · split
    · exact h
    · rename_i hl
      rw [List.nodup_append]
      refine ⟨h, by simp, fun a ha b hb e => ?_⟩
      rw [List.mem_singleton] at hb
      subst hb
      subst e
      exact hl ha
/-- A state's number stays, whatever is found behind it. -/
theorem val_pre {F G : List (List Nat)} {l : List Nat} (h : F <+: G) (hl : l = [] ∨ l ∈ F) : valD G l = valD F l := by
  unfold valD
  rcases hl with rfl | hl
  · simp
  · obtain ⟨K, rfl⟩ := h
    rw [List.idxOf_append, if_pos hl]
theorem row_pre (S : Nat) (E : List Ed) (l : List Nat) : ∀ (cs : List Nat) (F : List (List Nat)), F <+: rowD S E l F cs
  | [], F => List.prefix_refl _
  | c :: cs, F => (put_pre F _).trans (row_pre S E l cs _)
theorem row_nodup (S : Nat) (E : List Ed) (l : List Nat) : ∀ (cs : List Nat) (F : List (List Nat)), F.Nodup → (rowD S E l F cs).Nodup
  | [], F, h => h
  | c :: cs, F, h => row_nodup S E l cs _ (put_nodup h)
theorem row_mem (S : Nat) (E : List Ed) (l : List Nat) : ∀ (cs : List Nat) (F : List (List Nat)), ∀ c ∈ cs, toD S E c l = [] ∨ toD S E c l ∈ rowD S E l F cs
  | d :: cs, F, c, hc => by
    rcases List.mem_cons.1 hc with rfl | hc
    · by_cases h : toD S E c l = []
      · exact Or.inl h
      · exact Or.inr ((row_pre S E l cs _).subset (put_mem h))
    · exact row_mem S E l cs _ c hc
theorem mem_row (S : Nat) (E : List Ed) (l : List Nat) : ∀ (cs : List Nat) (F : List (List Nat)) (x : List Nat), x ∈ rowD S E l F cs → x ∈ F ∨ (x ≠ [] ∧ ∃ c ∈ cs, x = toD S E c l)
  | [], F, x, h => Or.inl h
  | c :: cs, F, x, h => by
    rcases mem_row S E l cs _ x h with h | ⟨h, d, hd, e⟩
    · rcases mem_putD h with h | ⟨e, h2⟩
      · exact Or.inl h
      · exact Or.inr ⟨by rw [e]; exact h2, c, List.mem_cons_self .., e⟩
    · exact Or.inr ⟨h, d, List.mem_cons_of_mem _ hd, e⟩
/-- State by state, class by class: none, if there would be more than 512. -/
def buildD (S : Nat) (E : List Ed) (cs : List Nat) : Nat → Nat → List (List Nat) → Option (List (List Nat))
  | 0, _, _ => none
  | f + 1, s, F => if h : s < F.length then (if 512 < (rowD S E F[s] F cs).length then none else buildD S E cs f (s + 1) (rowD S E F[s] F cs)) else some F
/-- What is found: closed under all that is behind. -/
structure FoundD (S : Nat) (E : List Ed) (cs : List Nat) (F : List (List Nat)) (s : Nat) : Prop where
  nodup : F.Nodup
  some : ∀ x ∈ F, x ≠ []
  le : s ≤ F.length
  done : ∀ i (h : i < F.length), i < s → ∀ c ∈ cs, toD S E c F[i] = [] ∨ toD S E c F[i] ∈ F
theorem FoundD.row {S : Nat} {E : List Ed} {cs : List Nat} {F : List (List Nat)} {s : Nat} (h : FoundD S E cs F s) (hs : s < F.length) : FoundD S E cs (rowD S E F[s] F cs) (s + 1) := by
  have hp := row_pre S E F[s] cs F
  have hg : ∀ i (hi : i < F.length) (hi2 : i < (rowD S E F[s] F cs).length), (rowD S E F[s] F cs)[i] = F[i] := fun i hi hi2 => (List.IsPrefix.getElem hp hi).symm
  refine ⟨row_nodup S E _ cs F h.nodup, fun x hx => ?_, Nat.le_trans hs hp.length_le, fun i hi his c hc => ?_⟩
  · rcases mem_row S E _ cs F x hx with hx | ⟨hx, _⟩
    · exact h.some x hx
    · exact hx
  · have hiF : i < F.length := by omega
    rw [hg i hiF hi]
    by_cases e : i = s
    · subst e
      exact row_mem S E _ cs F c hc
    · rcases h.done i hiF (by omega) c hc with h | h
      · exact Or.inl h
      · exact Or.inr (hp.subset h)
theorem build_some {S : Nat} {E : List Ed} {cs : List Nat} : ∀ (f s : Nat) (F G : List (List Nat)), FoundD S E cs F s → buildD S E cs f s F = some G → F <+: G ∧ FoundD S E cs G G.length
  | 0, _, _, _, _, h => by cases h
  | f + 1, s, F, G, hF, h => by
    unfold buildD at h
    split at h
    · rename_i hs
      split at h
      · cases h
      · obtain ⟨h1, h2⟩ := build_some f (s + 1) _ G (hF.row hs) h
        exact ⟨(row_pre S E _ cs F).trans h1, h2⟩
    · rename_i hs
      obtain rfl := Option.some.inj h
      have : s = F.length := by have := hF.le; omega
      subst this
      exact ⟨List.prefix_refl _, hF⟩
/-- Where a machine's state leads by bytes. -/
def atD (S : Nat) (E : List Ed) (F : List (List Nat)) : Int → List UInt8 → Int
  | s, [] => s
  | s, c :: t => if s = -1 then -1 else atD S E F (valD F (toD S E ((leastsE E).getD (classE E c.toNat) 0) (F.getD s.toNat []))) t
/-- Of: the beginning, and all that is found behind it. -/
def foundD (S : Nat) (E : List Ed) : Option (List (List Nat)) := buildD S E (leastsE E) 514 0 [closeL S E [0]]
theorem found_ok {S : Nat} {E : List Ed} {F : List (List Nat)} (h0 : closeL S E [0] ≠ []) (h : foundD S E = some F) : FoundD S E (leastsE E) F F.length ∧ ∃ h : 0 < F.length, F[0] = closeL S E [0] := by
  obtain ⟨h1, h2⟩ := build_some 514 0 _ F ⟨by simp, fun x hx => by rw [List.mem_singleton] at hx; rw [hx]; exact h0, Nat.zero_le _, fun i _ hi => absurd hi (by omega)⟩ h
  have hl := h1.length_le
  refine ⟨h2, by simp at hl; omega, ?_⟩
  obtain ⟨K, rfl⟩ := h1
  rfl
end Go.Proofs.YtcgfogdfcdndgaaGreatDoor

/- Machines of nets: what their rules tell; in what order classes and states are numbered. No program in it. -/
set_option linter.unusedVariables false
set_option linter.unusedSimpArgs false
namespace Go.Proofs.YtcgfogdfcdndgaaGreatDoor

theorem close_zero {S : Nat} {E : List Ed} (hE : EdN S E) (h1 : 1 ≤ S) (hS : S ≤ 2048) : closeL S E [0] ≠ [] := by
  have hb : InN S [0] := fun x hx => by rw [List.mem_singleton] at hx; omega
  have h : 0 ∈ closeL S E [0] := mem_rise.2 ⟨h1, ((for_spec hE hS hb).2.2 0).2 (.base (by simp))⟩
  intro e
  rw [e] at h
  simp at h
/-- What is found when a state's row begins. -/
def stgD (S : Nat) (E : List Ed) (cs : List Nat) (F0 : List (List Nat)) : Nat → List (List Nat)
  | 0 => F0
  | s + 1 => rowD S E ((stgD S E cs F0 s).getD s []) (stgD S E cs F0 s) cs
end Go.Proofs.YtcgfogdfcdndgaaGreatDoor

/- Machines of nets: what the maker's lists are: what is put behind, state by state, byte by byte; the texts of states. No program in it. -/
set_option linter.unusedVariables false
set_option linter.unusedSimpArgs false
namespace Go.Proofs.YtcgfogdfcdndgaaGreatDoor

/-- What follows by edges of a kind, as a list put behind. -/
theorem gos_list {q : Ed → Bool} : ∀ (es : List Ed) (l : List Nat), es.foldl (goE q) l = ((es.filter q).map Ed.tn).foldl reachE l
  | [], _ => rfl
  | e :: es, l => by
    rw [List.foldl_cons, gos_list es, List.filter_cons]
    unfold goE
    cases q e <;> simp
def freesD (E : List Ed) (s : Nat) : List Nat := ((outsE E s).filter (·.free)).map Ed.tn
theorem follow_list (E : List Ed) (l : List Nat) (s : Nat) : followE E (·.free) l s = (freesD E s).foldl reachE l := gos_list _ _
/-- What lies behind states by a byte, as often as edges lead there. -/
def edgesD (E : List Ed) (s : Nat) : List Ed := (outsE E s).filter fun e => !e.free
def behD (E : List Ed) (c : Nat) (l : List Nat) : List Nat := l.flatMap fun s => ((edgesD E s).filter (byE c)).map Ed.tn
theorem free_not {S : Nat} {E : List Ed} (hE : EdN S E) {c : Nat} (hc : c < 256) {e : Ed} (he : e ∈ E) (hb : byE c e = true) : e.free = false := by
  cases hf : e.free with
  | false => rfl
  | true =>
    have h := (hE e he).2.2.2.2 hf
    unfold byE at hb
    rw [h, has_nilS c hc] at hb
    cases hb
theorem mem_behD {S : Nat} {E : List Ed} (hE : EdN S E) {c : Nat} (hc : c < 256) {l : List Nat} {x : Nat} : x ∈ behD E c l ↔ x ∈ behE E c l := by
  rw [mem_beh]
  unfold behD edgesD outsE
  simp only [List.mem_flatMap, List.mem_map, List.mem_filter, decide_eq_true_iff]
  constructor
  · rintro ⟨s, hs, e, ⟨⟨⟨h1, h2⟩, _⟩, h4⟩, rfl⟩
    exact ⟨s, hs, e, h1, h2, h4, rfl⟩
  · rintro ⟨s, hs, e, h1, h2, h4, rfl⟩
    exact ⟨s, hs, e, ⟨⟨⟨h1, h2⟩, by rw [free_not hE hc h1 h4]; rfl⟩, h4⟩, rfl⟩
theorem behD_in {S : Nat} {E : List Ed} (hE : EdN S E) (c : Nat) (l : List Nat) : InN S (behD E c l) := fun x hx => by
  unfold behD edgesD outsE at hx
  simp only [List.mem_flatMap, List.mem_map, List.mem_filter] at hx
  obtain ⟨s, hs, e, ⟨⟨⟨h1, _⟩, _⟩, _⟩, rfl⟩ := hx
  exact hE.tn h1
/-- What is found behind a state by a byte is the net's. -/
theorem to_behind {S : Nat} {E : List Ed} (hE : EdN S E) (hS : S ≤ 2048) {c : Nat} (hc : c < 256) (l : List Nat) : closeL S E (behD E c l) = toD S E c l := by
  unfold toD closeL
  refine rise_congr fun x => for_congr hE hS (behD_in hE c l) (fun y hy => rise_in S _ y hy) (fun y => ?_) x
  show y ∈ behD E c l ↔ y ∈ riseE S (behE E c l)
  rw [mem_rise, mem_behD hE hc]
  exact ⟨fun h => ⟨behD_in hE c l y ((mem_behD hE hc).2 h), h⟩, fun h => h.2⟩
/-! Texts of states. -/
def textN (l : List Nat) : List UInt8 := l.flatMap fun s => [UInt8.ofNat (s / 256), UInt8.ofNat s]
theorem textN_len (l : List Nat) : (textN l).length = 2 * l.length := by
  induction l with
  | nil => rfl
  | cons x l ih => rw [show textN (x :: l) = [UInt8.ofNat (x / 256), UInt8.ofNat x] ++ textN l from rfl, List.length_append, ih]; simp; omega
theorem textN_next (l : List Nat) (s : Nat) : textN (l ++ [s]) = textN l ++ [UInt8.ofNat (s / 256), UInt8.ofNat s] := by
  unfold textN
  rw [List.flatMap_append]
  simp
/-- Unlike states have unlike texts. -/
theorem textN_inj : ∀ (a b : List Nat), (∀ x ∈ a, x < 65536) → (∀ x ∈ b, x < 65536) → textN a = textN b → a = b
  | [], [], _, _, _ => rfl
  | [], y :: b, _, _, h => by simp [textN] at h
  | x :: a, [], _, _, h => by simp [textN] at h
  | x :: a, y :: b, ha, hb, h => by
    have hx := ha x (List.mem_cons_self ..)
    have hy := hb y (List.mem_cons_self ..)
    rw [show textN (x :: a) = UInt8.ofNat (x / 256) :: UInt8.ofNat x :: textN a from rfl, show textN (y :: b) = UInt8.ofNat (y / 256) :: UInt8.ofNat y :: textN b from rfl] at h
    injection h with h1 h
    injection h with h2 h
    have e1 := congrArg UInt8.toNat h1
    have e2 := congrArg UInt8.toNat h2
    simp only [UInt8.toNat_ofNat'] at e1 e2
    have e : x = y := by omega
    rw [e, textN_inj a b (fun z hz => ha z (List.mem_cons_of_mem _ hz)) (fun z hz => hb z (List.mem_cons_of_mem _ hz)) h]

end Go.Proofs.YtcgfogdfcdndgaaGreatDoor

/- Machines: when they may be; steps and runs; the machine of a net may be, and tells what the net tells. No program in it. -/
set_option linter.unusedVariables false
set_option linter.unusedSimpArgs false
namespace Go.Proofs.YtcgfogdfcdndgaaGreatDoor

def inD (lo hi : Int) (x : Int) : Bool := decide (lo ≤ x) && decide (x < hi)
def mayD (cls : List Int) (next : List (List Int)) (rule : List Int) : Bool :=
  !(next.length == 0 || rule.length != next.length) && next.all (fun r => r.length == (next.headD []).length && r.all (inD (-1) (next.length : Int))) && (cls.all (inD 0 ((next.headD []).length : Int)) && rule.all (inD (-1) 64))
def checkD (cls : List Int) (next : List (List Int)) (rule : List Int) : Nat :=
  if 512 < next.length ∨ 512 < rule.length ∨ next.any (fun r => decide (256 < r.length)) = true then 5 else if mayD cls next rule = true then 0 else 2
def nextD (cls : List Int) (next : List (List Int)) (s : Int) (c : Nat) : Int := (next.getD s.toNat []).getD (cls.getD c 0).toNat 0
def stepD (cls : List Int) (next : List (List Int)) (rule : List Int) (s : Int) (c : Nat) : Int × Nat :=
  if checkD cls next rule ≠ 0 then (0, checkD cls next rule) else if s < 0 ∨ (next.length : Int) ≤ s then (0, 9) else (nextD cls next s c, 0)
def walkD (cls : List Int) (next : List (List Int)) : Int → List UInt8 → Int
  | s, [] => s
  | s, c :: t => if nextD cls next s c.toNat = -1 then -1 else walkD cls next (nextD cls next s c.toNat) t
def ruleD (rule : List Int) (s : Int) : Int := if s = -1 then -1 else rule.getD s.toNat 0
def runD (cls : List Int) (next : List (List Int)) (rule : List Int) (ts : List UInt8) : Int × Nat :=
  if checkD cls next rule ≠ 0 then (0, checkD cls next rule) else if 8192 < ts.length then (0, 5) else (ruleD rule (walkD cls next 0 ts), 0)

def tabD (S : Nat) (E : List Ed) (F : List (List Nat)) : List (List Int) := F.map fun l => (leastsE E).map fun c => valD F (toD S E c l)
def rulesD (F : List (List Nat)) (X : List Int) : List Int := F.map fun l => idxE l X 0
end Go.Proofs.YtcgfogdfcdndgaaGreatDoor

/- Machines of nets: the classes into which edges part the bytes, as sets: split one after another, by their least bytes. No program in it. -/
set_option linter.unusedVariables false
set_option linter.unusedSimpArgs false
namespace Go.Proofs.YtcgfogdfcdndgaaGreatDoor

def bothS (s t : S4) : S4 := s4 (andW s.f t.f)
def offS (s t : S4) : S4 := s4 (andW s.f (notW t.f))
theorem has_bothS (s t : S4) (c : Nat) (hc : c < 256) : hasS (bothS s t) c = (hasS s c && hasS t c) := by
  rw [bothS, hasS_s4 _ _ hc, has_and]; rfl
theorem has_offS (s t : S4) (c : Nat) (hc : c < 256) : hasS (offS s t) c = (hasS s c && !hasS t c) := by
  rw [offS, hasS_s4 _ _ hc, has_and, has_not]; rfl
theorem ext_set {s t : S4} (h : ∀ c, c < 256 → hasS s c = hasS t c) : s = t := s4_inj (eq4_of fun c hc => h c hc)
theorem nil_iff (s : S4) : s ≠ nilS ↔ ∃ c, c < 256 ∧ hasS s c = true := by
  constructor
  · intro h
    apply Classical.byContradiction
    intro hn
    exact h (ext_set fun c hc => by
      rw [has_nilS c hc]
      cases hx : hasS s c with
      | false => rfl
      | true => exact absurd ⟨c, hc, hx⟩ hn)
  · rintro ⟨c, hc, h⟩ rfl
    rw [has_nilS c hc] at h
    cases h
def cutsS (s t : S4) : Bool := !decide (bothS s t = nilS) && !decide (offS s t = nilS)
theorem cuts_iff {s t : S4} : cutsS s t = true ↔ bothS s t ≠ nilS ∧ offS s t ≠ nilS := by
  unfold cutsS
  simp
def partS (e s : S4) : S4 := if cutsS s e = true then bothS s e else s
def splitS (l : List S4) (e : S4) : List S4 := l.map (partS e) ++ (l.filter (cutsS · e)).map (offS · e)
/-- The list while it is split: k of its sets were looked at. -/
def stS (l : List S4) (e : S4) (k : Nat) : List S4 := (l.take k).map (partS e) ++ l.drop k ++ ((l.take k).filter (cutsS · e)).map (offS · e)
theorem stS_zero (l : List S4) (e : S4) : stS l e 0 = l := by simp [stS]
theorem stS_all (l : List S4) (e : S4) {k : Nat} (h : l.length ≤ k) : stS l e k = splitS l e := by
  unfold stS splitS
  rw [List.take_of_length_le h, List.drop_eq_nil_of_le h, List.append_nil]
theorem stS_len (l : List S4) (e : S4) {k : Nat} (h : k ≤ l.length) : l.length ≤ (stS l e k).length ∧ (stS l e k).length ≤ l.length + k := by
  unfold stS
  rw [List.length_append, List.length_append, List.length_map, List.length_map, List.length_drop, List.length_take]
  have := List.length_filter_le (cutsS · e) (l.take k)
  rw [List.length_take] at this
  omega
theorem stS_at (l : List S4) (e : S4) {k : Nat} (h : k < l.length) : (stS l e k)[k]? = some l[k] := by
  unfold stS
  have h1 : ((l.take k).map (partS e)).length = k := by rw [List.length_map, List.length_take]; omega
  rw [List.getElem?_append_left (by rw [List.length_append, List.length_drop, h1]; omega), List.getElem?_append_right (by omega)]
  rw [h1, Nat.sub_self, List.getElem?_drop, Nat.add_zero, List.getElem?_eq_getElem h]
theorem stS_no (l : List S4) (e : S4) {k : Nat} (h : k < l.length) (hc : cutsS l[k] e = false) : stS l e (k + 1) = stS l e k := by
  unfold stS
  rw [List.take_succ_eq_append_getElem h, List.map_append, List.filter_append, List.drop_eq_getElem_cons h]
  simp [partS, hc]
theorem stS_yes (l : List S4) (e : S4) {k : Nat} (h : k < l.length) (hc : cutsS l[k] e = true) : stS l e (k + 1) = (stS l e k).set k (bothS l[k] e) ++ [offS l[k] e] := by
  unfold stS
  have h1 : ((l.take k).map (partS e)).length = k := by rw [List.length_map, List.length_take]; omega
  rw [List.drop_eq_getElem_cons h, List.append_assoc ((l.take k).map (partS e)), List.set_append_right _ _ (by omega), h1, Nat.sub_self, List.cons_append, List.set_cons_zero]
  rw [List.take_succ_eq_append_getElem h, List.map_append, List.filter_append]
  simp [partS, hc, List.append_assoc]
def allS : S4 := s4 (allW nilW ((List.range 256).map (0 + ·)))
theorem has_allS (c : Nat) (hc : c < 256) : hasS allS c = true := by
  rw [allS, hasS_s4 _ _ hc, has_all, has_nil, Bool.false_or]
  simpa using hc
def partsS (E : List Ed) : List S4 := E.foldl (fun l e => splitS l e.set) [allS]
theorem parts_next (E : List Ed) (k : Nat) (h : k < E.length) : partsS (E.take (k + 1)) = splitS (partsS (E.take k)) E[k].set := by
  unfold partsS
  rw [List.take_succ_eq_append_getElem h, List.foldl_append]
  rfl

/-- A list of sets parts the bytes as edges do. -/
structure PartsS (E : List Ed) (L : List S4) : Prop where
  some : ∀ s ∈ L, ∃ c, c < 256 ∧ hasS s c = true
  all : ∀ c, c < 256 → ∃ s ∈ L, hasS s c = true
  same : ∀ s ∈ L, ∀ c, c < 256 → hasS s c = true → ∀ d, d < 256 → hasS s d = sameC E c d
  nodup : L.Nodup
theorem PartsS.one {E : List Ed} {L : List S4} (h : PartsS E L) {s t : S4} (hs : s ∈ L) (ht : t ∈ L) {c : Nat} (hc : c < 256) (h1 : hasS s c = true) (h2 : hasS t c = true) : s = t :=
  ext_set fun d hd => by rw [h.same s hs c hc h1 d hd, h.same t ht c hc h2 d hd]
theorem PartsS.perm {E : List Ed} {L C : List S4} (h : PartsS E L) (hp : C.Perm L) : PartsS E C :=
  ⟨fun s hs => h.some s (hp.mem_iff.1 hs), fun c hc => by obtain ⟨s, hs, h1⟩ := h.all c hc; exact ⟨s, hp.mem_iff.2 hs, h1⟩, fun s hs => h.same s (hp.mem_iff.1 hs), (hp.nodup_iff).2 h.nodup⟩
theorem same_snoc (E : List Ed) (e : Ed) (c d : Nat) : sameC (E ++ [e]) c d = (sameC E c d && (hasS e.set c == hasS e.set d)) := by
  unfold sameC
  rw [List.all_append]
  simp
theorem part_sub {e s : S4} {c : Nat} (hc : c < 256) (h : hasS (partS e s) c = true) : hasS s c = true := by
  unfold partS at h
  split at h
  · rw [has_bothS _ _ _ hc, Bool.and_eq_true] at h
    exact h.1
  · exact h
theorem PartsS.split {E : List Ed} {L : List S4} (h : PartsS E L) (e : Ed) : PartsS (E ++ [e]) (splitS L e.set) := by
  have mem : ∀ x, x ∈ splitS L e.set ↔ (∃ s ∈ L, partS e.set s = x) ∨ (∃ s ∈ L, cutsS s e.set = true ∧ offS s e.set = x) := fun x => by
    unfold splitS
    rw [List.mem_append, List.mem_map, List.mem_map]
    simp only [List.mem_filter, and_assoc]
  have nepart : ∀ s ∈ L, ∃ c, c < 256 ∧ hasS (partS e.set s) c = true := fun s hs => by
    unfold partS
    split
    · rename_i hc
      exact (nil_iff _).1 (cuts_iff.1 hc).1
    · exact h.some s hs
  refine ⟨fun x hx => ?_, fun c hc => ?_, fun x hx c hc h1 d hd => ?_, ?_⟩
  · rcases (mem x).1 hx with ⟨s, hs, rfl⟩ | ⟨s, hs, hc, rfl⟩
    · exact nepart s hs
    · exact (nil_iff _).1 (cuts_iff.1 hc).2
  · obtain ⟨s, hs, h1⟩ := h.all c hc
    by_cases hcut : cutsS s e.set = true
    · cases he : hasS e.set c with
      | true => exact ⟨partS e.set s, (mem _).2 (Or.inl ⟨s, hs, rfl⟩), by rw [partS, if_pos hcut, has_bothS _ _ _ hc, h1, he]; rfl⟩
      | false => exact ⟨offS s e.set, (mem _).2 (Or.inr ⟨s, hs, hcut, rfl⟩), by rw [has_offS _ _ _ hc, h1, he]; rfl⟩
    · exact ⟨partS e.set s, (mem _).2 (Or.inl ⟨s, hs, rfl⟩), by rw [partS, if_neg hcut]; exact h1⟩
  · rw [same_snoc]
    rcases (mem x).1 hx with ⟨s, hs, rfl⟩ | ⟨s, hs, hcut, rfl⟩
    · by_cases hcut : cutsS s e.set = true
      · rw [partS, if_pos hcut] at h1 ⊢
        rw [has_bothS _ _ _ hc, Bool.and_eq_true] at h1
        rw [has_bothS _ _ _ hd, h.same s hs c hc h1.1 d hd, h1.2]
        cases hasS e.set d <;> simp
      · rw [partS, if_neg hcut] at h1 ⊢
        rw [h.same s hs c hc h1 d hd]
        cases hsm : sameC E c d with
        | false => rfl
        | true =>
          have h2 : hasS s d = true := by rw [h.same s hs c hc h1 d hd, hsm]
          have hx : hasS e.set c = hasS e.set d := by
            apply Classical.byContradiction
            intro hne
            apply hcut
            refine cuts_iff.2 ⟨(nil_iff _).2 ?_, (nil_iff _).2 ?_⟩
            · cases hec : hasS e.set c with
              | true => exact ⟨c, hc, by rw [has_bothS _ _ _ hc, h1, hec]; rfl⟩
              | false =>
                refine ⟨d, hd, ?_⟩
                rw [has_bothS _ _ _ hd, h2]
                cases hed : hasS e.set d with
                | true => rfl
                | false => exact absurd (hec.trans hed.symm) hne
            · cases hec : hasS e.set c with
              | false => exact ⟨c, hc, by rw [has_offS _ _ _ hc, h1, hec]; rfl⟩
              | true =>
                refine ⟨d, hd, ?_⟩
                rw [has_offS _ _ _ hd, h2]
                cases hed : hasS e.set d with
                | false => rfl
                | true => exact absurd (hec.trans hed.symm) hne
          rw [hx]
          simp
    · rw [has_offS _ _ _ hc, Bool.and_eq_true, Bool.not_eq_true'] at h1
      rw [has_offS _ _ _ hd, h.same s hs c hc h1.1 d hd, h1.2]
      cases hasS e.set d <;> simp
  · unfold splitS
    rw [List.nodup_append]
    refine ⟨List.pairwise_map.2 (h.nodup.imp_of_mem fun {s t} hs ht hne e1 => ?_), List.pairwise_map.2 ((h.nodup.filter _).imp_of_mem fun {s t} hs ht hne e1 => ?_), fun x hx y hy e1 => ?_⟩
    · obtain ⟨c, hc, h1⟩ := nepart s hs
      exact hne (h.one hs ht hc (part_sub hc h1) (part_sub hc (by rw [← e1]; exact h1)))
    · obtain ⟨hs, hcs⟩ := List.mem_filter.1 hs
      obtain ⟨ht, hct⟩ := List.mem_filter.1 ht
      obtain ⟨c, hc, h1⟩ := (nil_iff _).1 (cuts_iff.1 hcs).2
      have h2 := h1
      rw [e1] at h2
      rw [has_offS _ _ _ hc, Bool.and_eq_true] at h1 h2
      exact hne (h.one hs ht hc h1.1 h2.1)
    · obtain ⟨s, hs, rfl⟩ := List.mem_map.1 hx
      obtain ⟨t, ht, rfl⟩ := List.mem_map.1 hy
      obtain ⟨ht, hct⟩ := List.mem_filter.1 ht
      obtain ⟨c, hc, h1⟩ := (nil_iff _).1 (cuts_iff.1 hct).2
      have h2 := h1
      rw [← e1] at h2
      rw [has_offS _ _ _ hc, Bool.and_eq_true, Bool.not_eq_true'] at h1
      obtain rfl := h.one hs ht hc (part_sub hc h2) h1.1
      rw [partS, if_pos hct, has_bothS _ _ _ hc, h1.2, Bool.and_false] at h2
      cases h2
theorem parts_ok (E : List Ed) : ∀ k, k ≤ E.length → PartsS (E.take k) (partsS (E.take k))
  | 0, _ => by
    rw [List.take_zero]
    unfold partsS
    refine ⟨fun s hs => ⟨0, by omega, ?_⟩, fun c hc => ⟨allS, by simp, has_allS c hc⟩, fun s hs c hc _ d hd => ?_, by simp⟩
    · rw [List.foldl_nil, List.mem_singleton] at hs
      rw [hs]
      exact has_allS 0 (by omega)
    · rw [List.foldl_nil, List.mem_singleton] at hs
      rw [hs, has_allS d hd]
      rfl
  | k + 1, h => by
    rw [parts_next E k (by omega), List.take_succ_eq_append_getElem (by omega)]
    exact (parts_ok E k (by omega)).split _
/-- No more than the bytes. -/
def leS (s : S4) : Nat := (elems s.f).headD 0
theorem leS_spec {s : S4} (h : ∃ c, c < 256 ∧ hasS s c = true) : leS s < 256 ∧ hasS s (leS s) = true ∧ ∀ b, b < leS s → hasS s b = false := by
  obtain ⟨c, hc, h1⟩ := h
  have hm : c ∈ elems s.f := (mem_elems _ _).2 ⟨hc, h1⟩
  have hr := elems_rise s.f
  unfold leS
  cases hl : elems s.f with
  | nil => rw [hl] at hm; cases hm
  | cons x l =>
    have hx : x ∈ elems s.f := by rw [hl]; exact List.mem_cons_self ..
    obtain ⟨h2, h3⟩ := (mem_elems _ _).1 hx
    refine ⟨h2, h3, fun b hb => ?_⟩
    have hbx : b < x := hb
    cases hsb : hasS s b with
    | false => rfl
    | true =>
      have : b ∈ elems s.f := (mem_elems _ _).2 ⟨by omega, hsb⟩
      rw [hl] at this hr
      rcases List.mem_cons.1 this with e | e
      · omega
      · have := (List.pairwise_cons.1 hr).1 b e
        omega
theorem PartsS.lt {E : List Ed} {C : List S4} (h : PartsS E C) (hs : (C.map leS).Pairwise (· ≤ ·)) : (C.map leS).Pairwise (· < ·) := by
  have hn : (C.map leS).Nodup := List.pairwise_map.2 (h.nodup.imp_of_mem fun {s t} h1 h2 hne e => by
    obtain ⟨a, b, _⟩ := leS_spec (h.some s h1)
    obtain ⟨a2, b2, _⟩ := leS_spec (h.some t h2)
    exact hne (h.one h1 h2 a b (by rw [e]; exact b2)))
  exact (hs.and hn).imp fun ⟨h1, h2⟩ => by omega
/-- By their least bytes they are the classes. -/
theorem PartsS.leasts {E : List Ed} {C : List S4} (h : PartsS E C) (hs : (C.map leS).Pairwise (· ≤ ·)) : C.map leS = leastsE E := by
  refine pair_ext (h.lt hs) ((List.pairwise_lt_range (n := 256)).filter _) fun x => ?_
  show x ∈ C.map leS ↔ x ∈ leastsE E
  rw [mem_leasts, List.mem_map]
  constructor
  · rintro ⟨s, hsm, rfl⟩
    obtain ⟨a, b, c⟩ := leS_spec (h.some s hsm)
    refine ⟨a, fun d hd => ?_⟩
    cases hsd : sameC E d (leS s) with
    | false => rfl
    | true =>
      have h2 := c d hd
      rw [h.same s hsm _ a b d (by omega), same_symm hsd] at h2
      cases h2
  · rintro ⟨hx, h2⟩
    obtain ⟨s, hsm, h3⟩ := h.all x hx
    obtain ⟨a, b, c⟩ := leS_spec (h.some s hsm)
    refine ⟨s, hsm, ?_⟩
    rcases Nat.lt_trichotomy (leS s) x with e | e | e
    · have h4 := h2 _ e
      have h5 := h.same s hsm x hx h3 _ a
      rw [b] at h5
      rw [same_symm h5.symm] at h4
      cases h4
    · exact e
    · rw [c x e] at h3
      cases h3
/-- A byte's class is the set in which it is. -/
theorem PartsS.class_at {E : List Ed} {C : List S4} (h : PartsS E C) (hs : (C.map leS).Pairwise (· ≤ ·)) {k : Nat} (hk : k < C.length) {c : Nat} (hc : c < 256) (hb : hasS C[k] c = true) : classE E c = k := by
  have hl := h.leasts hs
  have hcl := class_lt E hc
  have hj : classE E c < C.length := by rw [← hl, List.length_map] at hcl; exact hcl
  have h1 := class_same E hc
  have h2 : (leastsE E)[classE E c]'hcl = leS C[classE E c] := by
    have : (C.map leS)[classE E c]'(by rw [List.length_map]; exact hj) = leS C[classE E c] := List.getElem_map _
    rw [← this]
    simp only [hl]
  obtain ⟨a, b, _⟩ := leS_spec (h.some _ (List.getElem_mem hj))
  rw [h2] at h1
  have h3 : hasS C[classE E c] c = true := by rw [h.same _ (List.getElem_mem hj) _ a b c hc]; exact h1
  have e := h.one (List.getElem_mem hj) (List.getElem_mem hk) hc h3 hb
  exact (List.getElem_inj h.nodup).1 e

end Go.Proofs.YtcgfogdfcdndgaaGreatDoor

/- Machines of nets: the maker's loop, stage by stage; what it makes behind k classes of a row. No program in it. -/
set_option linter.unusedVariables false
set_option linter.unusedSimpArgs false
namespace Go.Proofs.YtcgfogdfcdndgaaGreatDoor

/-- What is found when row s begins. -/
def foD (S : Nat) (E : List Ed) (s : Nat) : List (List Nat) := stgD S E (leastsE E) [closeL S E [0]] s
def okD (S : Nat) (E : List Ed) (s : Nat) : Prop := ∀ i, i < s → i < (foD S E i).length ∧ (foD S E (i + 1)).length ≤ 512
theorem ok_zero (S : Nat) (E : List Ed) : okD S E 0 := fun i hi => absurd hi (by omega)
theorem ok_next {S : Nat} {E : List Ed} {s : Nat} (h : okD S E s) (h1 : s < (foD S E s).length) (h2 : (foD S E (s + 1)).length ≤ 512) : okD S E (s + 1) := fun i hi => by
  by_cases e : i = s
  · subst e; exact ⟨h1, h2⟩
  · exact h i (by omega)
theorem ok_len {S : Nat} {E : List Ed} {s : Nat} (h : okD S E s) : (foD S E s).length ≤ 512 := by
  cases s with
  | zero => simp [foD, stgD]
  | succ s => exact (h s (Nat.lt_succ_self s)).2
theorem fo_next (S : Nat) (E : List Ed) {s : Nat} (h : s < (foD S E s).length) : foD S E (s + 1) = rowD S E (foD S E s)[s] (foD S E s) (leastsE E) := by
  unfold foD
  rw [stgD]
  congr 1
  have h' : s < (stgD S E (leastsE E) [closeL S E [0]] s).length := h
  simp [List.getD, h']
  rfl
theorem fo_pre (S : Nat) (E : List Ed) (s : Nat) : foD S E s <+: foD S E (s + 1) := by
  unfold foD
  rw [stgD]
  exact row_pre ..
theorem fo_le (S : Nat) (E : List Ed) : ∀ s, 1 ≤ (foD S E s).length
  | 0 => by simp [foD, stgD]
  | s + 1 => Nat.le_trans (fo_le S E s) (fo_pre S E s).length_le
theorem ok_small {S : Nat} {E : List Ed} {s : Nat} (h : okD S E s) : s ≤ (foD S E s).length := by
  cases s with
  | zero => exact Nat.zero_le _
  | succ s =>
    have h1 := (h s (Nat.lt_succ_self s)).1
    have h2 := (fo_pre S E s).length_le
    have h3 : okD S E s := fun i hi => h i (by omega)
    -- what was found ahead holds s; there may be none more
    omega
theorem found_at {S : Nat} {E : List Ed} : ∀ s, okD S E s → foundD S E = buildD S E (leastsE E) (514 - s) s (foD S E s)
  | 0, _ => rfl
  | s + 1, h => by
    have h0 : okD S E s := fun i hi => h i (by omega)
    obtain ⟨h1, h2⟩ := h s (Nat.lt_succ_self s)
    have h3 := ok_len h0
    rw [found_at s h0, show 514 - s = (514 - (s + 1)) + 1 by omega, buildD, dif_pos h1, ← fo_next S E h1, if_neg (by omega)]
theorem found_end {S : Nat} {E : List Ed} {s : Nat} (h : okD S E s) (hs : ¬ s < (foD S E s).length) : foundD S E = some (foD S E s) := by
  have h3 := ok_len h
  have h4 := ok_small h
  rw [found_at s h, show 514 - s = (513 - s) + 1 by omega, buildD, dif_neg hs]
theorem found_many {S : Nat} {E : List Ed} {s : Nat} (h : okD S E s) (hs : s < (foD S E s).length) (hm : 512 < (foD S E (s + 1)).length) : foundD S E = none := by
  have h3 := ok_len h
  rw [found_at s h, show 514 - s = (513 - s) + 1 by omega, buildD, dif_pos hs, ← fo_next S E hs, if_pos hm]
/-- What is found behind k classes of row s. -/
def fkD (S : Nat) (E : List Ed) (l : List Nat) (F : List (List Nat)) (k : Nat) : List (List Nat) := rowD S E l F ((leastsE E).take k)
theorem fk_zero (S : Nat) (E : List Ed) (l : List Nat) (F : List (List Nat)) : fkD S E l F 0 = F := by simp [fkD, rowD]
theorem fk_all (S : Nat) (E : List Ed) (l : List Nat) (F : List (List Nat)) : fkD S E l F (leastsE E).length = rowD S E l F (leastsE E) := by simp [fkD]
theorem fk_next (S : Nat) (E : List Ed) (l : List Nat) (F : List (List Nat)) (k : Nat) (hk : k < (leastsE E).length) : fkD S E l F (k + 1) = putD (fkD S E l F k) (toD S E (leastsE E)[k] l) := by
  unfold fkD rowD
  rw [List.take_succ_eq_append_getElem hk, List.foldl_append]
  rfl
theorem put_len (F : List (List Nat)) (l : List Nat) : (putD F l).length ≤ F.length + 1 := by
  unfold putD
  split
  · omega
  · split
    · omega
    · simp
theorem fk_len (S : Nat) (E : List Ed) (l : List Nat) (F : List (List Nat)) : ∀ k, (fkD S E l F k).length ≤ F.length + k
  | 0 => by rw [fk_zero]; omega
  | k + 1 => by
    by_cases hk : k < (leastsE E).length
    · rw [fk_next S E l F k hk]
      have := put_len (fkD S E l F k) (toD S E (leastsE E)[k] l)
      have := fk_len S E l F k
      omega
    · have e : fkD S E l F (k + 1) = fkD S E l F k := by
        unfold fkD
        rw [List.take_of_length_le (by omega), List.take_of_length_le (by omega)]
      have := fk_len S E l F k
      rw [e]
      omega
/-- All that is found are closed lists: within the net, rising, some. -/
def GoodL (S : Nat) (l : List Nat) : Prop := InN S l ∧ l.Pairwise (· < ·)
theorem good_close (S : Nat) (E : List Ed) (l : List Nat) : GoodL S (closeL S E l) := ⟨rise_in _ _, rise_pair _ _⟩
theorem good_put {S : Nat} {F : List (List Nat)} {l : List Nat} (h : ∀ x ∈ F, GoodL S x) (hl : GoodL S l) : ∀ x ∈ putD F l, GoodL S x := fun x hx => by
  rcases mem_putD hx with h1 | ⟨rfl, _⟩
  · exact h x h1
  · exact hl
theorem good_row {S : Nat} {E : List Ed} {l : List Nat} : ∀ (cs : List Nat) (F : List (List Nat)), (∀ x ∈ F, GoodL S x) → ∀ x ∈ rowD S E l F cs, GoodL S x
  | [], F, h => h
  | c :: cs, F, h => good_row cs _ (good_put h (good_close S E _))
theorem good_fo (S : Nat) (E : List Ed) : ∀ s, ∀ x ∈ foD S E s, GoodL S x
  | 0, x, hx => by
    unfold foD stgD at hx
    rw [List.mem_singleton] at hx
    rw [hx]
    exact good_close S E _
  | s + 1, x, hx => by
    unfold foD at hx
    rw [stgD] at hx
    exact good_row _ _ (good_fo S E s) x hx
theorem good_fk {S : Nat} {E : List Ed} {l : List Nat} {F : List (List Nat)} (h : ∀ x ∈ F, GoodL S x) (k : Nat) : ∀ x ∈ fkD S E l F k, GoodL S x := good_row _ _ h
/-- The numbers of a row, as they stand at its end. -/
def nmD (S : Nat) (E : List Ed) (l : List Nat) (F : List (List Nat)) : List Int := (leastsE E).map fun c => valD F (toD S E c l)
theorem nm_pre {S : Nat} {E : List Ed} {l : List Nat} {F G : List (List Nat)} (h : F <+: G) (hm : ∀ c ∈ leastsE E, toD S E c l = [] ∨ toD S E c l ∈ F) : nmD S E l G = nmD S E l F := by
  unfold nmD
  exact List.map_congr_left fun c hc => val_pre h (hm c hc)
/-- The rows that are made, when row s begins. -/
def rowsD (S : Nat) (E : List Ed) (s : Nat) : List (List Int) := ((foD S E s).take s).map fun l => nmD S E l (foD S E s)
theorem fo_found {S : Nat} {E : List Ed} (h0 : closeL S E [0] ≠ []) : ∀ s, okD S E s → FoundD S E (leastsE E) (foD S E s) s
  | 0, _ => ⟨by simp [foD, stgD], fun x hx => by
      unfold foD stgD at hx
      rw [List.mem_singleton] at hx
      rw [hx]
      exact h0, Nat.zero_le _, fun i _ hi => absurd hi (by omega)⟩
  | s + 1, h => by
    obtain ⟨h1, _⟩ := h s (Nat.lt_succ_self s)
    rw [fo_next S E h1]
    exact (fo_found h0 s fun i hi => h i (by omega)).row h1
theorem rows_next {S : Nat} {E : List Ed} (h0 : closeL S E [0] ≠ []) {s : Nat} (h : okD S E s) (hs : s < (foD S E s).length) : rowsD S E (s + 1) = rowsD S E s ++ [nmD S E (foD S E s)[s] (foD S E (s + 1))] := by
  have hp := fo_pre S E s
  have hs2 : s < (foD S E (s + 1)).length := Nat.lt_of_lt_of_le hs hp.length_le
  unfold rowsD
  rw [List.take_succ_eq_append_getElem hs2, List.map_append]
  have ht : (foD S E (s + 1)).take s = (foD S E s).take s := by
    obtain ⟨K, e⟩ := hp
    rw [← e, List.take_append_of_le_length (by omega)]
  have hg : (foD S E (s + 1))[s] = (foD S E s)[s] := (List.IsPrefix.getElem hp hs).symm
  rw [ht, hg]
  congr 1
  refine List.map_congr_left fun l hl => nm_pre hp fun c hc => ?_
  obtain ⟨i, hi, rfl⟩ := List.mem_iff_getElem.1 hl
  rw [List.getElem_take]
  rw [List.length_take] at hi
  exact (fo_found h0 s h).done i (by omega) (by omega) c hc
theorem rows_end {S : Nat} {E : List Ed} {s : Nat} (hs : ¬ s < (foD S E s).length) : rowsD S E s = tabD S E (foD S E s) := by
  unfold rowsD tabD nmD
  rw [List.take_of_length_le (by omega)]

end Go.Proofs.YtcgfogdfcdndgaaGreatDoor
