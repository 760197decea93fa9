/- Nets of trees: a net of patterns leads from its beginning to a pattern's end by just those texts that the pattern takes. No program in it. -/
import Derived.Test.YtjibfffefppniaaGreatNfXM
import Derived.Test.YtjibfffefppniaaGreatSetMM
set_option linter.unusedVariables false
set_option linter.unusedSimpArgs false
namespace Go.Proofs.YtjibfffefppniaaGreat

/-- From a state by a text to a state. -/
inductive Pth (E : List Ed) : Nat → List UInt8 → Nat → Prop where
  | nil (x : Nat) : Pth E x [] x
  | free {e : Ed} {x y : Nat} {w : List UInt8} : e ∈ E → e.fr = (x : Int) → e.free = true → Pth E e.tn w y → Pth E x w y
  | byte {e : Ed} {x y : Nat} {c : UInt8} {w : List UInt8} : e ∈ E → e.fr = (x : Int) → byE c.toNat e = true → Pth E e.tn w y → Pth E x (c :: w) y
theorem Pth.more {E F : List Ed} {x y : Nat} {w : List UInt8} (h : Pth E x w y) (hs : ∀ e ∈ E, e ∈ F) : Pth F x w y := by
  induction h with
  | nil x => exact .nil x
  | free he hf hr _ ih => exact .free (hs _ he) hf hr ih
  | byte he hf hr _ ih => exact .byte (hs _ he) hf hr ih
theorem Pth.trans {E : List Ed} {x y z : Nat} {u v : List UInt8} (h : Pth E x u y) (h2 : Pth E y v z) : Pth E x (u ++ v) z := by
  induction h with
  | nil x => exact h2
  | free he hf hr _ ih => exact .free he hf hr (ih h2)
  | byte he hf hr _ ih => exact .byte he hf hr (ih h2)
theorem Pth.rch {E : List Ed} {l : List Nat} {x : Nat} (h : Rch E l x) : ∃ y ∈ l, ∀ {w z}, Pth E x w z → Pth E y w z := by
  induction h with
  | base hx => exact ⟨_, hx, fun h => h⟩
  | step _ he hf hr ih =>
    obtain ⟨y, hy, h⟩ := ih
    exact ⟨y, hy, fun h2 => h (.free he hf hr h2)⟩
theorem Pth.to_rch {E : List Ed} {l : List Nat} {x y : Nat} {w : List UInt8} (h : Pth E x w y) : w = [] → Rch E l x → Rch E l y := by
  induction h with
  | nil x => exact fun _ h => h
  | free he hf hr _ ih => exact fun hw h2 => ih hw (.step h2 he hf hr)
  | byte => exact fun hw => by cases hw
theorem Pth.split {E : List Ed} {x y : Nat} {w : List UInt8} (h : Pth E x w y) : ∀ (c : UInt8) (v : List UInt8) (l : List Nat), w = c :: v → Rch E l x → ∃ s, Rch E l s ∧ ∃ e ∈ E, e.fr = (s : Int) ∧ byE c.toNat e = true ∧ Pth E e.tn v y := by
  induction h with
  | nil x => intro c v l h; cases h
  | free he hf hr _ ih => intro c v l hw h2; exact ih c v l hw (.step h2 he hf hr)
  | byte he hf hr hp ih =>
    intro c v l hw h2
    injection hw with h3 h4
    subst h3 h4
    exact ⟨_, h2, _, he, hf, hr, hp⟩
theorem gone_pth {E : List Ed} {S : Nat} (hE : EdN S E) (hS : S ≤ 2048) (y : Nat) : ∀ (ts : List UInt8) (l : List Nat), InN S l → (y ∈ goneE E (forE E l) ts ↔ ∃ x ∈ l, Pth E x ts y)
  | [], l, hl => by
    show y ∈ forE E l ↔ _
    rw [(for_spec hE hS hl).2.2]
    constructor
    · intro h
      obtain ⟨x, hx, h⟩ := Pth.rch h
      exact ⟨x, hx, h (.nil y)⟩
    · rintro ⟨x, hx, h⟩
      exact h.to_rch rfl (.base hx)
  | c :: ts, l, hl => by
    show y ∈ goneE E (forE E (behE E c.toNat (forE E l))) ts ↔ _
    have h1 := for_spec hE hS hl
    rw [gone_pth hE hS y ts _ (in_beh hE _ _)]
    constructor
    · rintro ⟨x, hx, h⟩
      obtain ⟨s, hs, e, he, hf, hr, rfl⟩ := mem_beh.1 hx
      obtain ⟨z, hz, h2⟩ := Pth.rch ((h1.2.2 s).1 hs)
      exact ⟨z, hz, h2 (.byte he hf hr h)⟩
    · rintro ⟨x, hx, h⟩
      obtain ⟨s, hs, e, he, hf, hr, h2⟩ := h.split c ts l rfl (.base hx)
      exact ⟨e.tn, mem_beh.2 ⟨s, (h1.2.2 s).2 hs, e, he, hf, hr, rfl⟩, h2⟩

/-! A tree's edges. -/
theorem nodes_app (S : Int) : ∀ (l m : List RN) (i : Nat), nodesE S (l ++ m) i = nodesE S l i ++ nodesE S m (i + l.length)
  | [], m, i => by simp [nodesE]
  | x :: l, m, i => by
    rw [List.cons_append, nodesE, nodesE, nodes_app S l m (i + 1), List.append_assoc, List.length_cons, show i + (l.length + 1) = i + 1 + l.length by omega]
def teE (S k : Nat) (t : Rx) : List Ed := nodesE (S : Int) (flat k t) k
def inQ (S k : Nat) (t : Rx) : Nat := S + 2 * (k + t.size - 1)
def fE (a b : Nat) : Ed := freeE (a : Int) (b : Int)
theorem te_nil (S k : Nat) : teE S k .nil = [fE (inQ S k .nil) (inQ S k .nil + 1)] := by
  simp [teE, flat, nodesE, edgesE, partE, fE, freeE, inQ, Rx.size]
theorem te_set (S k : Nat) (s : S4) : teE S k (.set s) = [⟨(inQ S k (.set s) : Int), ((inQ S k (.set s) + 1 : Nat) : Int), s, false⟩] := by
  simp [teE, flat, nodesE, edgesE, partE, inQ, Rx.size]
theorem te_seq (S k : Nat) (a b : Rx) : teE S k (.seq a b) = teE S k a ++ teE S (k + a.size) b ++ [fE (inQ S k (.seq a b)) (inQ S k a), fE (inQ S k a + 1) (inQ S (k + a.size) b), fE (inQ S (k + a.size) b + 1) (inQ S k (.seq a b) + 1)] := by
  have ha := a.size_pos
  have hb := b.size_pos
  unfold teE
  rw [flat, nodes_app, nodes_app, flat_len, List.length_append, flat_len, flat_len]
  congr 1
theorem te_alt (S k : Nat) (a b : Rx) : teE S k (.alt a b) = teE S k a ++ teE S (k + a.size) b ++ [fE (inQ S k (.alt a b)) (inQ S k a), fE (inQ S k (.alt a b)) (inQ S (k + a.size) b), fE (inQ S k a + 1) (inQ S k (.alt a b) + 1), fE (inQ S (k + a.size) b + 1) (inQ S k (.alt a b) + 1)] := by
  have ha := a.size_pos
  have hb := b.size_pos
  unfold teE
  rw [flat, nodes_app, nodes_app, flat_len, List.length_append, flat_len, flat_len]
  congr 1
theorem te_star (S k : Nat) (a : Rx) : teE S k (.star a) = teE S k a ++ [fE (inQ S k (.star a)) (inQ S k (.star a) + 1), fE (inQ S k (.star a)) (inQ S k a), fE (inQ S k a + 1) (inQ S k a), fE (inQ S k a + 1) (inQ S k (.star a) + 1)] := by
  have ha := a.size_pos
  unfold teE
  rw [flat, nodes_app, flat_len]
  congr 1
theorem te_plus (S k : Nat) (a : Rx) : teE S k (.plus a) = teE S k a ++ [fE (inQ S k (.plus a)) (inQ S k a), fE (inQ S k a + 1) (inQ S k a), fE (inQ S k a + 1) (inQ S k (.plus a) + 1)] := by
  have ha := a.size_pos
  unfold teE
  rw [flat, nodes_app, flat_len]
  congr 1
theorem Pth.f {E : List Ed} {a b y : Nat} {w : List UInt8} (h : fE a b ∈ E) (h2 : Pth E b w y) : Pth E a w y := .free h rfl rfl h2
theorem star_ind {a : Rx} {P : List UInt8 → Prop} (h0 : P []) (h1 : ∀ u v, Mt a u → P v → P (u ++ v)) : ∀ v, Mt (.star a) v → P v := fun v h => by
  generalize hs : Rx.star a = s at h
  induction h with
  | star0 => exact h0
  | star1 hu hv _ ih =>
    injection hs with hs
    subst hs
    exact h1 _ _ hu (ih rfl)
  | nil => cases hs
  | set => cases hs
  | seq => cases hs
  | altl => cases hs
  | altr => cases hs
  | plus => cases hs
/-- What a tree takes leads from its in to its out. -/
theorem te_pth (S : Nat) (t : Rx) : ∀ (k : Nat) (w : List UInt8), Mt t w → Pth (teE S k t) (inQ S k t) w (inQ S k t + 1) := by
  induction t with
  | nil =>
    intro k w h
    cases h
    rw [te_nil]
    exact .f (by simp) (.nil _)
  | set s =>
    intro k w h
    cases h with
    | set _ c hc =>
      rw [te_set]
      refine .byte (e := ⟨(inQ S k (.set s) : Int), ((inQ S k (.set s) + 1 : Nat) : Int), s, false⟩) (by simp) rfl hc ?_
      show Pth _ (inQ S k (.set s) + 1) [] _
      exact .nil _
  | seq a b iha ihb =>
    intro k w h
    cases h with
    | seq hu hv =>
      rw [te_seq]
      have h1 := (iha k _ hu).more (F := teE S k (.seq a b)) (fun e he => by rw [te_seq]; simp [he])
      have h2 := (ihb (k + a.size) _ hv).more (F := teE S k (.seq a b)) (fun e he => by rw [te_seq]; simp [he])
      rw [te_seq] at h1 h2
      refine .f (by simp) (h1.trans (.f (b := inQ S (k + a.size) b) (by simp) ?_))
      have h3 := h2.trans (.f (b := inQ S k (.seq a b) + 1) (by simp) (.nil _))
      rwa [List.append_nil] at h3
  | alt a b iha ihb =>
    intro k w h
    rw [te_alt]
    cases h with
    | altl hu =>
      have h1 := (iha k _ hu).more (F := teE S k (.alt a b)) (fun e he => by rw [te_alt]; simp [he])
      rw [te_alt] at h1
      have h3 := h1.trans (.f (b := inQ S k (.alt a b) + 1) (by simp) (.nil _))
      rw [List.append_nil] at h3
      exact .f (by simp) h3
    | altr hu =>
      have h1 := (ihb (k + a.size) _ hu).more (F := teE S k (.alt a b)) (fun e he => by rw [te_alt]; simp [he])
      rw [te_alt] at h1
      have h3 := h1.trans (.f (b := inQ S k (.alt a b) + 1) (by simp) (.nil _))
      rw [List.append_nil] at h3
      exact .f (by simp) h3
  | star a iha =>
    intro k w h
    have key : ∀ v, Mt (.star a) v → Pth (teE S k (.star a)) (inQ S k (.star a)) v (inQ S k (.star a) + 1) ∧ Pth (teE S k (.star a)) (inQ S k a + 1) v (inQ S k (.star a) + 1) := by
      refine star_ind ?_ ?_
      · rw [te_star]
        exact ⟨.f (by simp) (.nil _), .f (by simp) (.nil _)⟩
      · intro u v hu hv
        have h1 := ((iha k _ hu).more (F := teE S k (.star a)) (fun e he => by rw [te_star]; simp [he])).trans hv.2
        exact ⟨.f (by rw [te_star]; simp) h1, .f (by rw [te_star]; simp) h1⟩
    exact (key w h).1
  | plus a iha =>
    intro k w h
    have key : ∀ v, Mt (.star a) v → Pth (teE S k (.plus a)) (inQ S k a + 1) v (inQ S k (.plus a) + 1) := by
      refine star_ind ?_ ?_
      · rw [te_plus]
        exact .f (by simp) (.nil _)
      · intro u v hu hv
        have h1 := ((iha k _ hu).more (F := teE S k (.plus a)) (fun e he => by rw [te_plus]; simp [he])).trans hv
        exact .f (by rw [te_plus]; simp) h1
    cases h with
    | plus hu hv =>
      have h1 := ((iha k _ hu).more (F := teE S k (.plus a)) (fun e he => by rw [te_plus]; simp [he])).trans (key _ hv)
      exact .f (by rw [te_plus]; simp) h1

/-! What is left to be read at a state. -/
def Rst (S : Nat) : Nat → Rx → Nat → List UInt8 → Prop
  | k, .nil, q, u => (q = inQ S k .nil ∧ Mt .nil u) ∨ (q = inQ S k .nil + 1 ∧ u = [])
  | k, .set s, q, u => (q = inQ S k (.set s) ∧ Mt (.set s) u) ∨ (q = inQ S k (.set s) + 1 ∧ u = [])
  | k, .seq a b, q, u => (q = inQ S k (.seq a b) ∧ Mt (.seq a b) u) ∨ (q = inQ S k (.seq a b) + 1 ∧ u = []) ∨ (∃ u1 u2, u = u1 ++ u2 ∧ Rst S k a q u1 ∧ Mt b u2) ∨ Rst S (k + a.size) b q u
  | k, .alt a b, q, u => (q = inQ S k (.alt a b) ∧ Mt (.alt a b) u) ∨ (q = inQ S k (.alt a b) + 1 ∧ u = []) ∨ Rst S k a q u ∨ Rst S (k + a.size) b q u
  | k, .star a, q, u => (q = inQ S k (.star a) ∧ Mt (.star a) u) ∨ (q = inQ S k (.star a) + 1 ∧ u = []) ∨ ∃ u1 u2, u = u1 ++ u2 ∧ Rst S k a q u1 ∧ Mt (.star a) u2
  | k, .plus a, q, u => (q = inQ S k (.plus a) ∧ Mt (.plus a) u) ∨ (q = inQ S k (.plus a) + 1 ∧ u = []) ∨ ∃ u1 u2, u = u1 ++ u2 ∧ Rst S k a q u1 ∧ Mt (.star a) u2
def InT (S k : Nat) (t : Rx) (q : Nat) : Prop := S + 2 * k ≤ q ∧ q < S + 2 * (k + t.size)
theorem rst_in (S : Nat) (t : Rx) : ∀ (k q : Nat) (u : List UInt8), Rst S k t q u → InT S k t q := by
  induction t with
  | nil => intro k q u h; simp only [Rst, inQ, Rx.size, InT] at *; omega
  | set s => intro k q u h; simp only [Rst, inQ, Rx.size, InT] at *; omega
  | seq a b iha ihb =>
    intro k q u h
    rcases h with ⟨h, _⟩ | ⟨h, _⟩ | ⟨_, _, _, h, _⟩ | h
    · simp only [inQ, Rx.size, InT] at *; omega
    · simp only [inQ, Rx.size, InT] at *; omega
    · have := iha _ _ _ h; simp only [Rx.size, InT] at *; omega
    · have := ihb _ _ _ h; simp only [Rx.size, InT] at *; omega
  | alt a b iha ihb =>
    intro k q u h
    rcases h with ⟨h, _⟩ | ⟨h, _⟩ | h | h
    · simp only [inQ, Rx.size, InT] at *; omega
    · simp only [inQ, Rx.size, InT] at *; omega
    · have := iha _ _ _ h; simp only [Rx.size, InT] at *; omega
    · have := ihb _ _ _ h; simp only [Rx.size, InT] at *; omega
  | star a iha =>
    intro k q u h
    rcases h with ⟨h, _⟩ | ⟨h, _⟩ | ⟨_, _, _, h, _⟩
    · simp only [inQ, Rx.size, InT] at *; omega
    · simp only [inQ, Rx.size, InT] at *; omega
    · have := iha _ _ _ h; simp only [Rx.size, InT] at *; omega
  | plus a iha =>
    intro k q u h
    rcases h with ⟨h, _⟩ | ⟨h, _⟩ | ⟨_, _, _, h, _⟩
    · simp only [inQ, Rx.size, InT] at *; omega
    · simp only [inQ, Rx.size, InT] at *; omega
    · have := iha _ _ _ h; simp only [Rx.size, InT] at *; omega
theorem rst_at {S k : Nat} {t : Rx} {q : Nat} {u : List UInt8} (h : Rst S k t q u) : (q = inQ S k t → Mt t u) ∧ (q = inQ S k t + 1 → u = []) := by
  have hs := t.size_pos
  have out : ∀ {a : Rx} {k' v}, Rst S k' a q v → k' + a.size < k + t.size → ¬ (q = inQ S k t) ∧ ¬ (q = inQ S k t + 1) := fun {a k' v} h hk => by
    have := rst_in _ _ _ _ _ h
    simp only [InT, inQ] at *
    omega
  have lr : ∀ {P Q : Prop}, ((q = inQ S k t ∧ P) ∨ (q = inQ S k t + 1 ∧ Q)) → (q = inQ S k t → P) ∧ (q = inQ S k t + 1 → Q) := fun h => by
    rcases h with ⟨h1, h2⟩ | ⟨h1, h2⟩
    · exact ⟨fun _ => h2, fun h => by omega⟩
    · exact ⟨fun h => by omega, fun _ => h2⟩
  cases t with
  | nil => exact lr h
  | set s => exact lr h
  | seq a b =>
    rcases h with h | h | ⟨_, _, _, h, _⟩ | h
    · exact lr (Or.inl h)
    · exact lr (Or.inr h)
    · have := out h (by simp only [Rx.size]; omega); exact ⟨fun h => absurd h this.1, fun h => absurd h this.2⟩
    · have := out h (by simp only [Rx.size]; omega); exact ⟨fun h => absurd h this.1, fun h => absurd h this.2⟩
  | alt a b =>
    rcases h with h | h | h | h
    · exact lr (Or.inl h)
    · exact lr (Or.inr h)
    · have := out h (by simp only [Rx.size]; omega); exact ⟨fun h => absurd h this.1, fun h => absurd h this.2⟩
    · have := out h (by simp only [Rx.size]; omega); exact ⟨fun h => absurd h this.1, fun h => absurd h this.2⟩
  | star a =>
    rcases h with h | h | ⟨_, _, _, h, _⟩
    · exact lr (Or.inl h)
    · exact lr (Or.inr h)
    · have := out h (by simp only [Rx.size]; omega); exact ⟨fun h => absurd h this.1, fun h => absurd h this.2⟩
  | plus a =>
    rcases h with h | h | ⟨_, _, _, h, _⟩
    · exact lr (Or.inl h)
    · exact lr (Or.inr h)
    · have := out h (by simp only [Rx.size]; omega); exact ⟨fun h => absurd h this.1, fun h => absurd h this.2⟩
theorem rst_mt {S k : Nat} {t : Rx} {u : List UInt8} (h : Mt t u) : Rst S k t (inQ S k t) u := by
  cases t <;> exact Or.inl ⟨rfl, h⟩
theorem rst_out (S k : Nat) (t : Rx) : Rst S k t (inQ S k t + 1) [] := by
  cases t <;> first | exact Or.inr ⟨rfl, rfl⟩ | exact Or.inr (Or.inl ⟨rfl, rfl⟩)
theorem te_in (S : Nat) (t : Rx) : ∀ (k : Nat) (e : Ed), e ∈ teE S k t → ∃ x y : Nat, e.fr = (x : Int) ∧ e.to = (y : Int) ∧ InT S k t x ∧ InT S k t y := by
  have one : ∀ (t : Rx) (k a b : Nat), InT S k t a → InT S k t b → ∃ x y : Nat, (fE a b).fr = (x : Int) ∧ (fE a b).to = (y : Int) ∧ InT S k t x ∧ InT S k t y := fun t k a b h1 h2 => ⟨a, b, rfl, rfl, h1, h2⟩
  induction t with
  | nil =>
    intro k e he
    rw [te_nil, List.mem_singleton] at he
    subst he
    exact one _ _ _ _ (by simp only [InT, inQ, Rx.size]; omega) (by simp only [InT, inQ, Rx.size]; omega)
  | set s =>
    intro k e he
    rw [te_set, List.mem_singleton] at he
    subst he
    exact ⟨_, _, rfl, rfl, by simp only [InT, inQ, Rx.size]; omega, by simp only [InT, inQ, Rx.size]; omega⟩
  | seq a b iha ihb =>
    intro k e he
    have ha := a.size_pos
    have hb := b.size_pos
    rw [te_seq, List.mem_append, List.mem_append] at he
    rcases he with (he | he) | he
    · obtain ⟨x, y, h1, h2, h3, h4⟩ := iha k e he
      exact ⟨x, y, h1, h2, by simp only [InT, Rx.size] at *; omega, by simp only [InT, Rx.size] at *; omega⟩
    · obtain ⟨x, y, h1, h2, h3, h4⟩ := ihb _ e he
      exact ⟨x, y, h1, h2, by simp only [InT, Rx.size] at *; omega, by simp only [InT, Rx.size] at *; omega⟩
    · simp only [List.mem_cons, List.not_mem_nil, or_false] at he
      rcases he with rfl | rfl | rfl <;> exact one _ _ _ _ (by simp only [InT, inQ, Rx.size]; omega) (by simp only [InT, inQ, Rx.size]; omega)
  | alt a b iha ihb =>
    intro k e he
    have ha := a.size_pos
    have hb := b.size_pos
    rw [te_alt, List.mem_append, List.mem_append] at he
    rcases he with (he | he) | he
    · obtain ⟨x, y, h1, h2, h3, h4⟩ := iha k e he
      exact ⟨x, y, h1, h2, by simp only [InT, Rx.size] at *; omega, by simp only [InT, Rx.size] at *; omega⟩
    · obtain ⟨x, y, h1, h2, h3, h4⟩ := ihb _ e he
      exact ⟨x, y, h1, h2, by simp only [InT, Rx.size] at *; omega, by simp only [InT, Rx.size] at *; omega⟩
    · simp only [List.mem_cons, List.not_mem_nil, or_false] at he
      rcases he with rfl | rfl | rfl | rfl <;> exact one _ _ _ _ (by simp only [InT, inQ, Rx.size]; omega) (by simp only [InT, inQ, Rx.size]; omega)
  | star a iha =>
    intro k e he
    have ha := a.size_pos
    rw [te_star, List.mem_append] at he
    rcases he with he | he
    · obtain ⟨x, y, h1, h2, h3, h4⟩ := iha k e he
      exact ⟨x, y, h1, h2, by simp only [InT, Rx.size] at *; omega, by simp only [InT, Rx.size] at *; omega⟩
    · simp only [List.mem_cons, List.not_mem_nil, or_false] at he
      rcases he with rfl | rfl | rfl | rfl <;> exact one _ _ _ _ (by simp only [InT, inQ, Rx.size]; omega) (by simp only [InT, inQ, Rx.size]; omega)
  | plus a iha =>
    intro k e he
    have ha := a.size_pos
    rw [te_plus, List.mem_append] at he
    rcases he with he | he
    · obtain ⟨x, y, h1, h2, h3, h4⟩ := iha k e he
      exact ⟨x, y, h1, h2, by simp only [InT, Rx.size] at *; omega, by simp only [InT, Rx.size] at *; omega⟩
    · simp only [List.mem_cons, List.not_mem_nil, or_false] at he
      rcases he with rfl | rfl | rfl <;> exact one _ _ _ _ (by simp only [InT, inQ, Rx.size]; omega) (by simp only [InT, inQ, Rx.size]; omega)
/-- What an edge reads. -/
def Lab1 (e : Ed) (l : List UInt8) : Prop := (e.free = true ∧ l = []) ∨ ∃ c : UInt8, byE c.toNat e = true ∧ l = [c]
theorem lab_f {a b : Nat} {l : List UInt8} (h : Lab1 (fE a b) l) : l = [] := by
  rcases h with ⟨_, h⟩ | ⟨c, h, _⟩
  · exact h
  · unfold byE fE freeE at h
    rw [has_nilS _ c.toNat_lt] at h
    cases h
theorem rst_step (S : Nat) (t : Rx) : ∀ (k : Nat) (e : Ed), e ∈ teE S k t → ∀ (x y : Nat), e.fr = (x : Int) → e.to = (y : Int) → ∀ l u, Lab1 e l → Rst S k t y u → Rst S k t x (l ++ u) := by
  have no : ∀ {t a : Rx} {k k' q : Nat} {P : Prop} {v}, Rst S k' a q v → InT S k t q → (k' + a.size ≤ k ∨ k + t.size ≤ k') → P := fun {t a k k' q P v} h h2 hk => by
    have := rst_in _ _ _ _ _ h
    simp only [InT] at *
    omega
  have fr : ∀ {a b x y : Nat} {l : List UInt8}, (fE a b).fr = (x : Int) → (fE a b).to = (y : Int) → Lab1 (fE a b) l → x = a ∧ y = b ∧ l = [] := fun {a b x y l} h1 h2 h3 => by
    have h1 : (a : Int) = x := h1
    have h2 : (b : Int) = y := h2
    exact ⟨by omega, by omega, lab_f h3⟩
  induction t with
  | nil =>
    intro k e he x y hx hy l u hl h
    rw [te_nil, List.mem_singleton] at he
    subst he
    obtain ⟨rfl, rfl, rfl⟩ := fr hx hy hl
    have := (rst_at h).2 rfl
    subst this
    exact rst_mt .nil
  | set s =>
    intro k e he x y hx hy l u hl h
    rw [te_set, List.mem_singleton] at he
    subst he
    have h1 : ((inQ S k (.set s) : Nat) : Int) = x := hx
    have h2 : ((inQ S k (.set s) + 1 : Nat) : Int) = y := hy
    obtain rfl : x = inQ S k (.set s) := by omega
    obtain rfl : y = inQ S k (.set s) + 1 := by omega
    have := (rst_at h).2 rfl
    subst this
    rcases hl with ⟨h3, _⟩ | ⟨c, hc, rfl⟩
    · cases h3
    · exact rst_mt (.set s c hc)
  | seq a b iha ihb =>
    intro k e he x y hx hy l u hl h
    have ha := a.size_pos
    have hb := b.size_pos
    rw [te_seq, List.mem_append, List.mem_append] at he
    rcases he with (he | he) | he
    · obtain ⟨x', y', h1, h2, h3, h4⟩ := te_in S a k e he
      obtain rfl : x' = x := by omega
      obtain rfl : y' = y := by omega
      rcases h with ⟨h, _⟩ | ⟨h, _⟩ | ⟨u1, u2, rfl, h, hm⟩ | h
      · simp only [InT, inQ, Rx.size] at *; omega
      · simp only [InT, inQ, Rx.size] at *; omega
      · exact Or.inr (Or.inr (Or.inl ⟨l ++ u1, u2, by rw [List.append_assoc], iha k e he _ _ h1 h2 l u1 hl h, hm⟩))
      · exact no h h4 (by omega)
    · obtain ⟨x', y', h1, h2, h3, h4⟩ := te_in S b _ e he
      obtain rfl : x' = x := by omega
      obtain rfl : y' = y := by omega
      rcases h with ⟨h, _⟩ | ⟨h, _⟩ | ⟨u1, u2, rfl, h, hm⟩ | h
      · simp only [InT, inQ, Rx.size] at *; omega
      · simp only [InT, inQ, Rx.size] at *; omega
      · exact no h h4 (by omega)
      · exact Or.inr (Or.inr (Or.inr (ihb _ e he _ _ h1 h2 l u hl h)))
    · simp only [List.mem_cons, List.not_mem_nil, or_false] at he
      rcases he with rfl | rfl | rfl
      · obtain ⟨rfl, rfl, rfl⟩ := fr hx hy hl
        rcases h with ⟨h, _⟩ | ⟨h, _⟩ | ⟨u1, u2, rfl, h, hm⟩ | h
        · simp only [inQ, Rx.size] at *; omega
        · simp only [inQ, Rx.size] at *; omega
        · rw [List.nil_append]; exact rst_mt (.seq ((rst_at h).1 rfl) hm)
        · exact no (t := a) (k := k) h (by simp only [InT, inQ]; omega) (by omega)
      · obtain ⟨rfl, rfl, rfl⟩ := fr hx hy hl
        rcases h with ⟨h, _⟩ | ⟨h, _⟩ | ⟨u1, u2, rfl, h, hm⟩ | h
        · simp only [inQ, Rx.size] at *; omega
        · simp only [inQ, Rx.size] at *; omega
        · exact no (t := b) (k := k + a.size) h (by simp only [InT, inQ]; omega) (by omega)
        · exact Or.inr (Or.inr (Or.inl ⟨[], u, rfl, rst_out S k a, (rst_at h).1 rfl⟩))
      · obtain ⟨rfl, rfl, rfl⟩ := fr hx hy hl
        have := (rst_at h).2 rfl
        subst this
        exact Or.inr (Or.inr (Or.inr (rst_out S _ b)))
  | alt a b iha ihb =>
    intro k e he x y hx hy l u hl h
    have ha := a.size_pos
    have hb := b.size_pos
    rw [te_alt, List.mem_append, List.mem_append] at he
    rcases he with (he | he) | he
    · obtain ⟨x', y', h1, h2, h3, h4⟩ := te_in S a k e he
      obtain rfl : x' = x := by omega
      obtain rfl : y' = y := by omega
      rcases h with ⟨h, _⟩ | ⟨h, _⟩ | h | h
      · simp only [InT, inQ, Rx.size] at *; omega
      · simp only [InT, inQ, Rx.size] at *; omega
      · exact Or.inr (Or.inr (Or.inl (iha k e he _ _ h1 h2 l u hl h)))
      · exact no h h4 (by omega)
    · obtain ⟨x', y', h1, h2, h3, h4⟩ := te_in S b _ e he
      obtain rfl : x' = x := by omega
      obtain rfl : y' = y := by omega
      rcases h with ⟨h, _⟩ | ⟨h, _⟩ | h | h
      · simp only [InT, inQ, Rx.size] at *; omega
      · simp only [InT, inQ, Rx.size] at *; omega
      · exact no h h4 (by omega)
      · exact Or.inr (Or.inr (Or.inr (ihb _ e he _ _ h1 h2 l u hl h)))
    · simp only [List.mem_cons, List.not_mem_nil, or_false] at he
      rcases he with rfl | rfl | rfl | rfl
      · obtain ⟨rfl, rfl, rfl⟩ := fr hx hy hl
        rcases h with ⟨h, _⟩ | ⟨h, _⟩ | h | h
        · simp only [inQ, Rx.size] at *; omega
        · simp only [inQ, Rx.size] at *; omega
        · exact rst_mt (.altl ((rst_at h).1 rfl))
        · exact no (t := a) (k := k) h (by simp only [InT, inQ]; omega) (by omega)
      · obtain ⟨rfl, rfl, rfl⟩ := fr hx hy hl
        rcases h with ⟨h, _⟩ | ⟨h, _⟩ | h | h
        · simp only [inQ, Rx.size] at *; omega
        · simp only [inQ, Rx.size] at *; omega
        · exact no (t := b) (k := k + a.size) h (by simp only [InT, inQ]; omega) (by omega)
        · exact rst_mt (.altr ((rst_at h).1 rfl))
      · obtain ⟨rfl, rfl, rfl⟩ := fr hx hy hl
        have := (rst_at h).2 rfl
        subst this
        exact Or.inr (Or.inr (Or.inl (rst_out S _ a)))
      · obtain ⟨rfl, rfl, rfl⟩ := fr hx hy hl
        have := (rst_at h).2 rfl
        subst this
        exact Or.inr (Or.inr (Or.inr (rst_out S _ b)))
  | star a iha =>
    intro k e he x y hx hy l u hl h
    have ha := a.size_pos
    rw [te_star, List.mem_append] at he
    rcases he with he | he
    · obtain ⟨x', y', h1, h2, h3, h4⟩ := te_in S a k e he
      obtain rfl : x' = x := by omega
      obtain rfl : y' = y := by omega
      rcases h with ⟨h, _⟩ | ⟨h, _⟩ | ⟨u1, u2, rfl, h, hm⟩
      · simp only [InT, inQ, Rx.size] at *; omega
      · simp only [InT, inQ, Rx.size] at *; omega
      · exact Or.inr (Or.inr ⟨l ++ u1, u2, by rw [List.append_assoc], iha k e he _ _ h1 h2 l u1 hl h, hm⟩)
    · simp only [List.mem_cons, List.not_mem_nil, or_false] at he
      have inA : ∀ {u}, Rst S k (.star a) (inQ S k a) u → Mt (.star a) u := fun {u} h => by
        rcases h with ⟨h, _⟩ | ⟨h, _⟩ | ⟨u1, u2, rfl, h, hm⟩
        · simp only [inQ, Rx.size] at *; omega
        · simp only [inQ, Rx.size] at *; omega
        · exact .star1 ((rst_at h).1 rfl) hm
      rcases he with rfl | rfl | rfl | rfl
      · obtain ⟨rfl, rfl, rfl⟩ := fr hx hy hl
        have := (rst_at h).2 rfl
        subst this
        exact rst_mt .star0
      · obtain ⟨rfl, rfl, rfl⟩ := fr hx hy hl
        exact rst_mt (inA h)
      · obtain ⟨rfl, rfl, rfl⟩ := fr hx hy hl
        exact Or.inr (Or.inr ⟨[], u, rfl, rst_out S k a, inA h⟩)
      · obtain ⟨rfl, rfl, rfl⟩ := fr hx hy hl
        have := (rst_at h).2 rfl
        subst this
        exact Or.inr (Or.inr ⟨[], [], rfl, rst_out S k a, .star0⟩)
  | plus a iha =>
    intro k e he x y hx hy l u hl h
    have ha := a.size_pos
    rw [te_plus, List.mem_append] at he
    rcases he with he | he
    · obtain ⟨x', y', h1, h2, h3, h4⟩ := te_in S a k e he
      obtain rfl : x' = x := by omega
      obtain rfl : y' = y := by omega
      rcases h with ⟨h, _⟩ | ⟨h, _⟩ | ⟨u1, u2, rfl, h, hm⟩
      · simp only [InT, inQ, Rx.size] at *; omega
      · simp only [InT, inQ, Rx.size] at *; omega
      · exact Or.inr (Or.inr ⟨l ++ u1, u2, by rw [List.append_assoc], iha k e he _ _ h1 h2 l u1 hl h, hm⟩)
    · simp only [List.mem_cons, List.not_mem_nil, or_false] at he
      have inA : ∀ {u}, Rst S k (.plus a) (inQ S k a) u → ∃ u1 u2, u = u1 ++ u2 ∧ Mt a u1 ∧ Mt (.star a) u2 := fun {u} h => by
        rcases h with ⟨h, _⟩ | ⟨h, _⟩ | ⟨u1, u2, rfl, h, hm⟩
        · simp only [inQ, Rx.size] at *; omega
        · simp only [inQ, Rx.size] at *; omega
        · exact ⟨u1, u2, rfl, (rst_at h).1 rfl, hm⟩
      rcases he with rfl | rfl | rfl
      · obtain ⟨rfl, rfl, rfl⟩ := fr hx hy hl
        obtain ⟨u1, u2, rfl, h1, h2⟩ := inA h
        rw [List.nil_append]
        exact rst_mt (.plus h1 h2)
      · obtain ⟨rfl, rfl, rfl⟩ := fr hx hy hl
        obtain ⟨u1, u2, rfl, h1, h2⟩ := inA h
        exact Or.inr (Or.inr ⟨[], u1 ++ u2, rfl, rst_out S k a, .star1 h1 h2⟩)
      · obtain ⟨rfl, rfl, rfl⟩ := fr hx hy hl
        have := (rst_at h).2 rfl
        subst this
        exact Or.inr (Or.inr ⟨[], [], rfl, rst_out S k a, .star0⟩)

/-! The net of some trees. -/
def flats (ts : List Rx) : List (List RN) := ts.map (flat 0)
theorem nete_cons (S : Nat) (t : Rx) (ts : List Rx) : netE S (flats (t :: ts)) = teE S 0 t ++ [fE 0 (inQ S 0 t)] ++ netE (S + 2 * t.size) (flats ts) := by
  show netE S (flat 0 t :: flats ts) = _
  rw [netE, flat_len, inQ, Nat.zero_add]
  rfl
theorem netx_cons (S : Nat) (t : Rx) (ts : List Rx) : netX S (flats (t :: ts)) = (inQ S 0 t + 1) :: netX (S + 2 * t.size) (flats ts) := by
  show netX S (flat 0 t :: flats ts) = _
  rw [netX, flat_len, inQ, Nat.zero_add]
def NR : Nat → List Rx → Nat → Nat → List UInt8 → Prop
  | _, [], _, _, _ => False
  | S, t :: ts, 0, q, u => (q = 0 ∧ Mt t u) ∨ Rst S 0 t q u
  | S, t :: ts, r + 1, q, u => NR (S + 2 * t.size) ts r q u
theorem nr_in : ∀ (ts : List Rx) (S r q : Nat) (u : List UInt8), NR S ts r q u → q = 0 ∨ S ≤ q
  | [], S, r, q, u, h => by simp [NR] at h
  | t :: ts, S, 0, q, u, h => by
    rcases h with ⟨h, _⟩ | h
    · exact Or.inl h
    · have := rst_in _ _ _ _ _ h
      unfold InT at this
      omega
  | t :: ts, S, r + 1, q, u, h => by
    rcases nr_in ts _ r q u h with h | h <;> omega
theorem net_to : ∀ (ts : List Rx) (S : Nat) (e : Ed), e ∈ netE S (flats ts) → ∃ x y : Nat, e.fr = (x : Int) ∧ e.to = (y : Int) ∧ S ≤ y ∧ (x = 0 ∨ S ≤ x)
  | [], S, e, he => by cases he
  | t :: ts, S, e, he => by
    rw [nete_cons, List.mem_append, List.mem_append, List.mem_singleton] at he
    rcases he with (he | rfl) | he
    · obtain ⟨x, y, h1, h2, h3, h4⟩ := te_in S t 0 e he
      unfold InT at *
      exact ⟨x, y, h1, h2, by omega, by omega⟩
    · exact ⟨0, _, rfl, rfl, by unfold inQ; omega, Or.inl rfl⟩
    · obtain ⟨x, y, h1, h2, h3, h4⟩ := net_to ts _ e he
      exact ⟨x, y, h1, h2, by omega, by omega⟩
theorem nr_step : ∀ (ts : List Rx) (S r : Nat), 1 ≤ S → ∀ (e : Ed), e ∈ netE S (flats ts) → ∀ (x y : Nat), e.fr = (x : Int) → e.to = (y : Int) → ∀ l u, Lab1 e l → NR S ts r y u → NR S ts r x (l ++ u)
  | [], S, r, _, e, he, _, _, _, _, _, _, _, _ => by cases he
  | t :: ts, S, r, hS, e, he, x, y, hx, hy, l, u, hl, h => by
    have hs := t.size_pos
    rw [nete_cons, List.mem_append, List.mem_append, List.mem_singleton] at he
    rcases he with (he | rfl) | he
    · obtain ⟨x', y', h1, h2, h3, h4⟩ := te_in S t 0 e he
      obtain rfl : x' = x := by omega
      obtain rfl : y' = y := by omega
      unfold InT at *
      cases r with
      | zero =>
        rcases h with ⟨h, _⟩ | h
        · omega
        · exact Or.inr (rst_step S t 0 e he _ _ h1 h2 l u hl h)
      | succ r =>
        rcases nr_in ts _ r _ u h with h | h <;> omega
    · have h1 : (0 : Int) = x := hx
      have h2 : ((inQ S 0 t : Nat) : Int) = y := hy
      obtain rfl : x = 0 := by omega
      obtain rfl : y = inQ S 0 t := by omega
      have hl : l = [] := lab_f (a := 0) hl
      subst hl
      cases r with
      | zero =>
        rcases h with ⟨h, _⟩ | h
        · unfold inQ at h; omega
        · exact Or.inl ⟨rfl, (rst_at h).1 rfl⟩
      | succ r =>
        rcases nr_in ts _ r _ u h with h | h <;> unfold inQ at h <;> omega
    · obtain ⟨x', y', h1, h2, h3, h4⟩ := net_to ts _ e he
      obtain rfl : x' = x := by omega
      obtain rfl : y' = y := by omega
      cases r with
      | zero =>
        rcases h with ⟨h, _⟩ | h
        · omega
        · have := rst_in _ _ _ _ _ h
          unfold InT at this
          omega
      | succ r => exact nr_step ts (S + 2 * t.size) r (by omega) e he _ _ h1 h2 l u hl h
theorem nr_pth {ts : List Rx} {S r : Nat} (hS : 1 ≤ S) {x y : Nat} {w : List UInt8} (h : Pth (netE S (flats ts)) x w y) : NR S ts r y [] → NR S ts r x w := by
  induction h with
  | nil x => exact id
  | @free e x y w he hf hr _ ih =>
    intro h
    obtain ⟨x', y', h1, h2, _⟩ := net_to ts S e he
    have := nr_step ts S r hS e he _ _ hf (show e.to = (e.tn : Int) by unfold Ed.tn; omega) [] _ (Or.inl ⟨hr, rfl⟩) (ih h)
    exact this
  | @byte e x y c w he hf hr _ ih =>
    intro h
    obtain ⟨x', y', h1, h2, _⟩ := net_to ts S e he
    exact nr_step ts S r hS e he _ _ hf (show e.to = (e.tn : Int) by unfold Ed.tn; omega) [c] _ (Or.inr ⟨c, hr, rfl⟩) (ih h)
theorem nr_end : ∀ (ts : List Rx) (S r : Nat) (hr : r < ts.length) (hx : r < (netX S (flats ts)).length), NR S ts r (netX S (flats ts))[r] []
  | [], S, r, hr, _ => absurd hr (by simp)
  | t :: ts, S, 0, _, hx => by
    simp only [netx_cons, List.getElem_cons_zero]
    exact Or.inr (rst_out S 0 t)
  | t :: ts, S, r + 1, hr, hx => by
    simp only [netx_cons, List.getElem_cons_succ]
    exact nr_end ts _ r (by simpa using hr) (by simpa [netx_cons] using hx)
theorem nr_zero : ∀ (ts : List Rx) (S r : Nat) (u : List UInt8) (hr : r < ts.length), 1 ≤ S → NR S ts r 0 u → Mt ts[r] u
  | t :: ts, S, 0, u, _, hS, h => by
    rcases h with ⟨_, h⟩ | h
    · exact h
    · have := rst_in _ _ _ _ _ h
      unfold InT at this
      omega
  | t :: ts, S, r + 1, u, hr, hS, h => nr_zero ts (S + 2 * t.size) r u (by simpa using hr) (by omega) h
theorem net_pth : ∀ (ts : List Rx) (S r : Nat) (u : List UInt8) (hr : r < ts.length) (hx : r < (netX S (flats ts)).length), Mt ts[r] u → Pth (netE S (flats ts)) 0 u (netX S (flats ts))[r]
  | t :: ts, S, 0, u, _, hx, h => by
    simp only [netx_cons, List.getElem_cons_zero, nete_cons]
    refine .f (b := inQ S 0 t) (by simp) ?_
    exact (te_pth S t 0 u h).more fun e he => by simp [he]
  | t :: ts, S, r + 1, u, hr, hx, h => by
    simp only [netx_cons, List.getElem_cons_succ, nete_cons]
    exact (net_pth ts (S + 2 * t.size) r u (by simpa using hr) (by simpa [netx_cons] using hx) h).more fun e he => by simp [he]
theorem net_takes (ts : List Rx) (r : Nat) (u : List UInt8) (hr : r < ts.length) (hx : r < (netX 1 (flats ts)).length) : Pth (netE 1 (flats ts)) 0 u (netX 1 (flats ts))[r] ↔ Mt ts[r] u :=
  ⟨fun h => nr_zero ts 1 r u hr (by omega) (nr_pth (by omega) h (nr_end ts 1 r hr hx)), net_pth ts 1 r u hr hx⟩

end Go.Proofs.YtjibfffefppniaaGreat

/- Nets of trees may be; the rule that is told is the first tree that takes the text; what steps make is what a run makes. No program in it. -/
set_option linter.unusedVariables false
set_option linter.unusedSimpArgs false
namespace Go.Proofs.YtjibfffefppniaaGreat

theorem te_set0 (S : Nat) (t : Rx) : ∀ (k : Nat) (e : Ed), e ∈ teE S k t → e.free = true → e.set = nilS := by
  induction t with
  | nil => intro k e he hf; rw [te_nil, List.mem_singleton] at he; subst he; rfl
  | set s => intro k e he hf; rw [te_set, List.mem_singleton] at he; subst he; cases hf
  | seq a b iha ihb =>
    intro k e he hf
    rw [te_seq, List.mem_append, List.mem_append] at he
    rcases he with (he | he) | he
    · exact iha _ e he hf
    · exact ihb _ e he hf
    · simp only [List.mem_cons, List.not_mem_nil, or_false] at he
      rcases he with rfl | rfl | rfl <;> rfl
  | alt a b iha ihb =>
    intro k e he hf
    rw [te_alt, List.mem_append, List.mem_append] at he
    rcases he with (he | he) | he
    · exact iha _ e he hf
    · exact ihb _ e he hf
    · simp only [List.mem_cons, List.not_mem_nil, or_false] at he
      rcases he with rfl | rfl | rfl | rfl <;> rfl
  | star a iha =>
    intro k e he hf
    rw [te_star, List.mem_append] at he
    rcases he with he | he
    · exact iha _ e he hf
    · simp only [List.mem_cons, List.not_mem_nil, or_false] at he
      rcases he with rfl | rfl | rfl | rfl <;> rfl
  | plus a iha =>
    intro k e he hf
    rw [te_plus, List.mem_append] at he
    rcases he with he | he
    · exact iha _ e he hf
    · simp only [List.mem_cons, List.not_mem_nil, or_false] at he
      rcases he with rfl | rfl | rfl <;> rfl
theorem sizes_cons (t : Rx) (ts : List Rx) : sizesOf (flats (t :: ts)) = t.size + sizesOf (flats ts) := by
  unfold sizesOf flats
  simp [flat_len]
theorem net_ed : ∀ (ts : List Rx) (S N : Nat), S + 2 * sizesOf (flats ts) ≤ N → 1 ≤ N → EdN N (netE S (flats ts))
  | [], S, N, _, _ => fun e he => by cases he
  | t :: ts, S, N, hN, h1 => fun e he => by
    have hs := t.size_pos
    rw [sizes_cons] at hN
    rw [nete_cons, List.mem_append, List.mem_append, List.mem_singleton] at he
    rcases he with (he | rfl) | he
    · obtain ⟨x, y, e1, e2, h3, h4⟩ := te_in S t 0 e he
      unfold InT at h3 h4
      exact ⟨by omega, by omega, by omega, by omega, te_set0 S t 0 e he⟩
    · refine ⟨by show (0 : Int) ≤ 0; omega, by show (0 : Int) < _; omega, ?_, ?_, fun _ => rfl⟩
      · show (0 : Int) ≤ ((inQ S 0 t : Nat) : Int); omega
      · show ((inQ S 0 t : Nat) : Int) < _; unfold inQ; omega
    · exact net_ed ts _ N (by omega) h1 e he
theorem netx_in : ∀ (ts : List Rx) (S N : Nat), S + 2 * sizesOf (flats ts) ≤ N → ∀ x ∈ netX S (flats ts), x < N
  | [], S, N, _ => fun e he => by cases he
  | t :: ts, S, N, hN => fun x hx => by
    have hs := t.size_pos
    rw [sizes_cons] at hN
    rw [netx_cons, List.mem_cons] at hx
    rcases hx with rfl | hx
    · unfold inQ; omega
    · exact netx_in ts _ N (by omega) x hx
theorem len_sizes : ∀ ts : List Rx, ts.length ≤ sizesOf (flats ts)
  | [] => Nat.zero_le _
  | t :: ts => by
    have := len_sizes ts
    have := t.size_pos
    rw [sizes_cons, List.length_cons]
    omega
theorem flats_len (ts : List Rx) : (flats ts).length = ts.length := by unfold flats; rw [List.length_map]
theorem ofn_ok {ts : List Rx} (h : ofN (flats ts) = 0) : ts.length ≤ 64 ∧ 1 + 2 * sizesOf (flats ts) ≤ 2048 := by
  unfold ofN at h
  rw [flats_len] at h
  split at h
  · cases h
  · split at h
    · rename_i h1; exact absurd h h1
    · split at h
      · cases h
      · unfold netS at *
        omega
theorem net_ok {ts : List Rx} (h : ofN (flats ts) = 0) : checkN ((netS (flats ts) : Nat) : Int) (netE 1 (flats ts)) (zl (netX 1 (flats ts))) = 0 := by
  obtain ⟨h1, h2⟩ := ofn_ok h
  have h3 := nete_len (flats ts) 1
  have h4 := netx_len (flats ts) 1
  rw [flats_len] at h3 h4
  have h5 := len_sizes ts
  have hl : (zl (netX 1 (flats ts))).length = ts.length := by unfold zl; rw [List.length_map, h4]
  unfold checkN
  rw [if_neg (by unfold netS; omega), if_neg]
  simp only [not_or, Bool.not_eq_false]
  refine ⟨by unfold netS; omega, ?_, ?_⟩
  · rw [List.all_eq_true]
    intro x hx
    unfold zl at hx
    obtain ⟨y, hy, rfl⟩ := List.mem_map.1 hx
    have := netx_in ts 1 (netS (flats ts)) (Nat.le_refl _) y hy
    unfold okSt
    simp
    omega
  · rw [List.all_eq_true]
    intro e he
    obtain ⟨a, b, c, d, f⟩ := net_ed ts 1 (netS (flats ts)) (Nat.le_refl _) (by unfold netS; omega) e he
    unfold okEd
    have h6 : (!(e.free && !decide (e.set = nilS))) = true := by
      cases hf : e.free with
      | false => rfl
      | true => simp [f hf]
    rw [h6, decide_eq_true a, decide_eq_true b, decide_eq_true c, decide_eq_true d]
    rfl
/-- Whether a tree takes a text; the first one that does. -/
noncomputable def tkN (t : Rx) (w : List UInt8) : Bool := @decide (Mt t w) (Classical.propDecidable _)
theorem tkN_iff (t : Rx) (w : List UInt8) : tkN t w = true ↔ Mt t w := by unfold tkN; exact @decide_eq_true_iff _ (Classical.propDecidable _)
noncomputable def fstT : List Rx → List UInt8 → Nat → Int
  | [], _, _ => -1
  | t :: ts, w, k => if tkN t w = true then (k : Int) else fstT ts w (k + 1)
theorem idx_fst (l : List Nat) (w : List UInt8) : ∀ (X : List Nat) (ts : List Rx) (k : Nat), X.length = ts.length → (∀ r (h : r < X.length) (h' : r < ts.length), X[r] ∈ l ↔ Mt ts[r] w) → idxE l (zl X) k = fstT ts w k
  | [], [], _, _, _ => rfl
  | x :: X, t :: ts, k, hl, h => by
    have h0 := h 0 (by simp) (by simp)
    simp only [List.getElem_cons_zero] at h0
    show (if isIn l (x : Int) = true then (k : Int) else idxE l (zl X) (k + 1)) = if tkN t w = true then (k : Int) else fstT ts w (k + 1)
    rw [isIn_nat]
    by_cases hx : x ∈ l
    · rw [if_pos (by simpa using hx), if_pos ((tkN_iff t w).2 (h0.1 hx))]
    · rw [if_neg (by simpa using hx), if_neg (fun h1 => hx (h0.2 ((tkN_iff t w).1 h1)))]
      exact idx_fst l w X ts (k + 1) (by simpa using hl) fun r h1 h2 => by
        have := h (r + 1) (by simpa using h1) (by simpa using h2)
        simpa using this
  | [], _ :: _, _, hl, _ => by simp at hl
  | _ :: _, [], _, hl, _ => by simp at hl
theorem run_net {ts : List Rx} (h : ofN (flats ts) = 0) (w : List UInt8) (hw : w.length ≤ 8192) : runE ((netS (flats ts) : Nat) : Int) (netE 1 (flats ts)) (zl (netX 1 (flats ts))) w = (fstT ts w 0, 0) := by
  obtain ⟨h1, h2⟩ := ofn_ok h
  unfold runE
  rw [if_neg (by rw [net_ok h]; simp), if_neg (by omega)]
  congr 1
  have hE := net_ed ts 1 (netS (flats ts)) (Nat.le_refl _) (by unfold netS; omega)
  have h4 := netx_len (flats ts) 1
  rw [flats_len] at h4
  refine idx_fst _ w _ ts 0 h4 fun r hr hr' => ?_
  rw [gone_pth hE (by unfold netS; omega) _ w [0] (fun x hx => by rw [List.mem_singleton] at hx; subst hx; unfold netS; omega), ← net_takes ts r w hr' hr]
  simp
theorem fst_from (w : List UInt8) : ∀ (ts : List Rx) (k : Nat), (fstT ts w 0 = -1 ∧ fstT ts w k = -1) ∨ (0 ≤ fstT ts w 0 ∧ fstT ts w 0 < ts.length ∧ fstT ts w k = k + fstT ts w 0)
  | [], k => Or.inl ⟨rfl, rfl⟩
  | t :: ts, k => by
    rw [fstT, fstT]
    by_cases ht : tkN t w = true
    · rw [if_pos ht, if_pos ht]
      exact Or.inr ⟨by simp, by simp, by simp⟩
    · rw [if_neg ht, if_neg ht]
      rcases fst_from w ts (k + 1) with ⟨h1, h2⟩ | ⟨h1, h2, h3⟩ <;> rcases fst_from w ts (0 + 1) with ⟨h4, h5⟩ | ⟨h4, h5, h6⟩
      · exact Or.inl ⟨h5, h2⟩
      · omega
      · omega
      · refine Or.inr ⟨?_, ?_, ?_⟩
        · rw [h6]; omega
        · rw [h6, List.length_cons]; omega
        · rw [h6, h3]; omega
theorem fst_append (w : List UInt8) (b : List Rx) : ∀ (a : List Rx) (k : Nat), fstT (a ++ b) w k = if fstT a w k = -1 then fstT b w (k + a.length) else fstT a w k
  | [], k => by simp [fstT]
  | t :: a, k => by
    rw [List.cons_append, fstT, fstT]
    by_cases ht : tkN t w = true
    · rw [if_pos ht, if_pos ht, if_neg (by omega)]
    · rw [if_neg ht, if_neg ht, fst_append w b a (k + 1), List.length_cons, show k + 1 + a.length = k + (a.length + 1) by omega]
/-- Who is told of two lists, one behind the other. -/
theorem fst_both (w : List UInt8) (a b : List Rx) : (0 ≤ fstT a w 0 → fstT (a ++ b) w 0 = fstT a w 0) ∧ (fstT a w 0 < 0 → 0 ≤ fstT b w 0 → fstT (a ++ b) w 0 = a.length + fstT b w 0) ∧ (fstT a w 0 < 0 → fstT b w 0 < 0 → fstT (a ++ b) w 0 = -1) := by
  rw [fst_append]
  rcases fst_from w a 0 with ⟨h1, _⟩ | ⟨h1, _, _⟩
  · rw [if_pos h1, Nat.zero_add]
    rcases fst_from w b a.length with ⟨h2, h3⟩ | ⟨h2, _, h3⟩
    · exact ⟨fun h => by omega, fun _ h => by omega, fun _ _ => h3⟩
    · exact ⟨fun h => by omega, fun _ _ => h3, fun _ h => by omega⟩
  · rw [if_neg (by omega)]
    exact ⟨fun _ => rfl, fun h => by omega, fun h => by omega⟩
theorem fst_none {w : List UInt8} : ∀ {ts : List Rx} {k : Nat}, (∀ t ∈ ts, tkN t w = false) → fstT ts w k = -1
  | [], _, _ => rfl
  | t :: ts, k, h => by
    rw [fstT, if_neg (by rw [h t (by simp)]; simp)]
    exact fst_none fun u hu => h u (by simp [hu])
/-- From behind: a list of which all from k on are looked through. -/
theorem fst_back (w : List UInt8) (ts : List Rx) (k : Nat) (hk : k < ts.length) : fstT (ts.drop k) w k = if tkN ts[k] w = true then (k : Int) else fstT (ts.drop (k + 1)) w (k + 1) := by
  rw [List.drop_eq_getElem_cons hk, fstT]

/-! Few trees. -/
theorem few_sizes : ∀ {ts : List Rx}, (∀ t ∈ ts, t.size ≤ 60) → sizesOf (flats ts) ≤ 60 * ts.length
  | [], _ => Nat.zero_le _
  | t :: ts, h => by
    have h1 := few_sizes (ts := ts) fun u hu => h u (by simp [hu])
    have h2 := h t (by simp)
    rw [sizes_cons, List.length_cons]
    omega
theorem first_ok : ∀ {ts : List Rx}, (∀ t ∈ ts, t.size ≤ 60) → firstErr (flats ts) = 0
  | [], _ => rfl
  | t :: ts, h => by
    have h2 := h t (by simp)
    have h3 : checkE (flat 0 t) = 0 := by rw [checkE, if_neg (by rw [flat_len]; omega), if_pos (tree_of_flat t)]
    show firstErr (flat 0 t :: flats ts) = 0
    rw [firstErr, if_neg (by rw [h3]; simp)]
    exact first_ok fun u hu => h u (by simp [hu])
theorem few_ok {ts : List Rx} (h : ∀ t ∈ ts, t.size ≤ 60) (hl : ts.length ≤ 6) : ofN (flats ts) = 0 := by
  have h1 := few_sizes h
  unfold ofN
  rw [flats_len, if_neg (by omega), first_ok h, if_neg (by simp), if_neg (by unfold netS; omega)]
theorem trees_of : ∀ {Ls : List (List RN)}, (∀ l ∈ Ls, l.length ≤ 60 ∧ checkE l = 0) → ∃ ts : List Rx, Ls = flats ts ∧ ∀ t ∈ ts, t.size ≤ 60
  | [], _ => ⟨[], rfl, by simp⟩
  | l :: Ls, h => by
    obtain ⟨ts, h1, h2⟩ := trees_of (Ls := Ls) fun l hl => h l (by simp [hl])
    obtain ⟨h3, h4⟩ := h l (by simp)
    obtain ⟨t, rfl⟩ := flat_of_tree _ (check_zero h4).2
    refine ⟨t :: ts, by rw [h1]; rfl, fun u hu => ?_⟩
    rcases List.mem_cons.1 hu with rfl | hu
    · rwa [flat_len] at h3
    · exact h2 u hu

/-! Step by step. -/
def nowL (S : Nat) (E : List Ed) (ts : List UInt8) : List Nat := ts.foldl (fun l c => closeL S E (stepL S E c.toNat l)) (closeL S E [0])
theorem now_next (S : Nat) (E : List Ed) (ts : List UInt8) (k : Nat) (hk : k < ts.length) : nowL S E (ts.take (k + 1)) = closeL S E (stepL S E ts[k].toNat (nowL S E (ts.take k))) := by
  unfold nowL
  rw [List.take_succ_eq_append_getElem hk, List.foldl_append]
  rfl
theorem step_in (S : Nat) (E : List Ed) (c : Nat) (l : List Nat) : InN S (stepL S E c l) := rise_in _ _
theorem close_in (S : Nat) (E : List Ed) (l : List Nat) : InN S (closeL S E l) := rise_in _ _
theorem now_in (S : Nat) (E : List Ed) (ts : List UInt8) : InN S (nowL S E ts) := by
  unfold nowL
  rcases List.eq_nil_or_concat ts with rfl | ⟨l, c, rfl⟩
  · exact close_in _ _ _
  · rw [List.concat_eq_append, List.foldl_append]
    exact close_in _ _ _
theorem beh_congr {E : List Ed} {c : Nat} {a b : List Nat} (h : ∀ x, x ∈ a ↔ x ∈ b) (x : Nat) : x ∈ behE E c a ↔ x ∈ behE E c b := by
  rw [mem_beh, mem_beh]
  constructor <;> rintro ⟨s, hs, h2⟩
  · exact ⟨s, (h s).1 hs, h2⟩
  · exact ⟨s, (h s).2 hs, h2⟩
theorem for_congr {S : Nat} {E : List Ed} (hE : EdN S E) (hS : S ≤ 2048) {a b : List Nat} (ha : InN S a) (hb : InN S b) (h : ∀ x, x ∈ a ↔ x ∈ b) (x : Nat) : x ∈ forE E a ↔ x ∈ forE E b := by
  rw [(for_spec hE hS ha).2.2, (for_spec hE hS hb).2.2]
  exact ⟨Rch.mono fun y hy => .base ((h y).1 hy), Rch.mono fun y hy => .base ((h y).2 hy)⟩
theorem now_gone {S : Nat} {E : List Ed} (hE : EdN S E) (h1 : 1 ≤ S) (hS : S ≤ 2048) : ∀ (ts : List UInt8) (k : Nat) (x : Nat), k ≤ ts.length → (x ∈ nowL S E (ts.take k) ↔ x ∈ goneE E (forE E [0]) (ts.take k))
  | ts, 0, x, _ => by
    have h0 : InN S [0] := fun x hx => by rw [List.mem_singleton] at hx; omega
    show x ∈ closeL S E [0] ↔ x ∈ forE E [0]
    rw [closeL, mem_rise]
    exact ⟨fun h => h.2, fun h => ⟨(for_spec hE hS h0).2.1 x h, h⟩⟩
  | ts, k + 1, x, hk => by
    have hk' : k < ts.length := hk
    rw [now_next S E ts k hk', gone_next E _ ts k hk', closeL, mem_rise]
    have hst := step_in S E ts[k].toNat (nowL S E (ts.take k))
    have hbe := in_beh hE ts[k].toNat (goneE E (forE E [0]) (ts.take k))
    have key := for_congr hE hS hst hbe (fun y => by
      rw [stepL, mem_rise, beh_congr (fun z => now_gone hE h1 hS ts k z (by omega)) y]
      exact ⟨fun h => h.2, fun h => ⟨hbe y h, h⟩⟩)
    rw [key x]
    exact ⟨fun h => h.2, fun h => ⟨(for_spec hE hS hbe).2.1 x h, h⟩⟩
theorem now_all {S : Nat} {E : List Ed} (hE : EdN S E) (h1 : 1 ≤ S) (hS : S ≤ 2048) (ts : List UInt8) (x : Nat) : x ∈ nowL S E ts ↔ x ∈ goneE E (forE E [0]) ts := by
  have := now_gone hE h1 hS ts ts.length x (Nat.le_refl _)
  rwa [List.take_of_length_le (Nat.le_refl _)] at this
theorem idx_congr {a b : List Nat} (h : ∀ x, x ∈ a ↔ x ∈ b) : ∀ (X : List Int) (k : Nat), idxE a X k = idxE b X k
  | [], _ => rfl
  | x :: X, k => by
    have e : isIn a x = isIn b x := by
      unfold isIn zl
      rw [Bool.eq_iff_iff, List.contains_iff_mem, List.contains_iff_mem, List.mem_map, List.mem_map]
      constructor <;> rintro ⟨y, hy, h2⟩
      · exact ⟨y, (h y).1 hy, h2⟩
      · exact ⟨y, (h y).2 hy, h2⟩
    rw [idxE, idxE, e, idx_congr h X (k + 1)]
/-- From behind. -/
theorem idx_back (l : List Nat) (X : List Int) (k : Nat) (hk : k < X.length) : idxE l (X.drop k) k = if isIn l X[k] = true then (k : Int) else idxE l (X.drop (k + 1)) (k + 1) := by
  rw [List.drop_eq_getElem_cons hk, idxE]
/-- P10.5. -/
theorem close_close {S : Nat} {E : List Ed} (hE : EdN S E) (hS : S ≤ 2048) {l : List Nat} (hl : InN S l) : closeL S E (closeL S E l) = closeL S E l := by
  refine rise_congr fun x => ?_
  have hc := close_in S E l
  have h1 := for_spec hE hS hl
  have h2 := for_spec hE hS hc
  rw [h2.2.2, h1.2.2]
  refine ⟨Rch.mono fun y hy => ?_, fun h => .base (mem_rise.2 ⟨h1.2.1 x ((h1.2.2 x).2 h), (h1.2.2 x).2 h⟩)⟩
  exact (h1.2.2 y).1 (mem_rise.1 hy).2
theorem close_more {S : Nat} {E : List Ed} (hE : EdN S E) (hS : S ≤ 2048) {l m : List Nat} (hl : InN S l) (hm : InN S m) (h : ∀ x ∈ l, x ∈ m) : ∀ x ∈ closeL S E l, x ∈ closeL S E m := fun x hx => by
  obtain ⟨h1, h2⟩ := mem_rise.1 hx
  exact mem_rise.2 ⟨h1, ((for_spec hE hS hm).2.2 x).2 (Rch.mono (fun y hy => .base (h y hy)) (((for_spec hE hS hl).2.2 x).1 h2))⟩
theorem close_has {S : Nat} {E : List Ed} (hE : EdN S E) (hS : S ≤ 2048) {l : List Nat} (hl : InN S l) : ∀ x ∈ l, x ∈ closeL S E l := fun x hx =>
  mem_rise.2 ⟨hl x hx, ((for_spec hE hS hl).2.2 x).2 (.base hx)⟩

end Go.Proofs.YtjibfffefppniaaGreat
