/- Two arrays of a law's own: three slices of bytes, three truths; what a step makes of them. No condition but what each statement names. -/
import Derived.Test.YtjkfmgppmpjcmaaDkSt
import Derived.Deep.RegionLawGrows
set_option linter.unusedVariables false
set_option linter.unusedSimpArgs false
namespace Go.Proofs.Ytjkfmgppmpjcmaa
open Go.RowKit Go.Maps Go.Shelf Go.Sort Go.ChangeShapes Go.WideShapes Go.ChangeAt

theorem step_append_bytes {ops : Array Oper} {o : Oper} {a : Act} {K : Act → World → Prop} {Q : Exit → Act → World → Prop} {E : Prop} (w : World) (hgd : o.guard = none) (s x : Operand)
    (ho : o.op = .call { callee := .builtin .append, args := #[s, x], argTypes := #[28, 28] })
    (base : Nat) (v : Value) (l : List UInt8) (hs : a.eval s = v) (hown : Own w base v l) (A : Option Addr) (m c : Nat) (l' : List UInt8) (hx : a.eval x = .slice A m c) (hm : l'.length = m) (hr : Rd w A l')
    (hbytes : l.length + l'.length ≤ 200000000000000) (hbase : base ≤ w.heap.size)
    (h : ∀ v' w', Own w' base v' (l ++ l') → w.grownBy w' v.ownBlock → (v'.ownBlock = v.ownBlock ∨ v'.ownBlock = some w.heap.size) → K (a.put o.dst v') w') :
    if Region.wanted o (yielded ops a.tmps) = true then Oper.wp Try.prog o a w K Q else E := by
  have hw : Region.wanted o (yielded ops a.tmps) = true := by simp [Region.wanted, hgd]
  rw [if_pos hw]
  obtain ⟨v', w', hr, h2, h3, h5⟩ := run_append_bytes w o.type base v l hown A m c l' hm hr hbytes hbase
  unfold Oper.wp execOp
  simp only [ho, resolve, invoke, builtin, Sem.run_bind, Sem.run_pure, Result.andThen_ok, List.map_toArray, List.map_cons, List.map_nil, hs, hx, hr]
  exact h v' w' h2 h3 h5

theorem own_same {w w' : World} {B : Nat} {v : Value} {l : BS} (h : Own w B v l) (hs : ∀ c, v.ownBlock = some c → w'.heap[c]? = w.heap[c]?) : Own w' B v l := by
  rcases h.2 with ⟨e, hn⟩ | ⟨g, cap, cur, e, hb, hg, r⟩
  · exact ⟨h.1, .inl ⟨e, hn⟩⟩
  · exact ⟨h.1, .inr ⟨g, cap, cur, e, hb, (hs g (by rw [e]; rfl)).trans hg, r⟩⟩
def upd {α : Type} (f : Nat → α) (a : Nat) (x : α) : Nat → α := fun k => if k = a then x else f k
theorem upd_same {α : Type} (f : Nat → α) (a : Nat) (x : α) : upd f a x a = x := by simp [upd]
theorem upd_other {α : Type} (f : Nat → α) {a k : Nat} (x : α) (h : k ≠ a) : upd f a x k = f k := by simp [upd, h]
theorem upd_list (f : Nat → Value) {a : Nat} (ha : a < 3) (x : Value) : [f 0, f 1, f 2].set a x = [upd f a x 0, upd f a x 1, upd f a x 2] := by
  rcases a with _ | _ | _ | a
  · rfl
  · rfl
  · rfl
  · omega
theorem at_list (f : Nat → Value) {a : Nat} (ha : a < 3) : ([f 0, f 1, f 2] : List Value)[a]? = some (f a) := by
  rcases a with _ | _ | _ | a
  · rfl
  · rfl
  · rfl
  · omega

/-- The law's two arrays: F holds the slices, I the truths. -/
structure Pl (w : World) (own : Nat → Option Role) (F I B0 : Nat) (vs : Nat → Value) (fs : Nat → BS) (is : Nat → Bool) : Prop where
  bf : Blk w F [vs 0, vs 1, vs 2] 50
  bi : Blk w I [.bool (is 0), .bool (is 1), .bool (is 2)] 51
  nf : own F = none
  ni : own I = none
  fi : F ≠ I
  val : ∀ k, k < 3 → Own w B0 (vs k) (fs k) ∧ ∀ c, (vs k).ownBlock = some c → own c = none ∧ c ≠ F ∧ c ≠ I
  dis : ∀ j k c, j < 3 → k < 3 → j ≠ k → (vs j).ownBlock = some c → (vs k).ownBlock ≠ some c
section
variable {w w' : World} {own own' : Nat → Option Role} {F I B0 : Nat} {vs : Nat → Value} {fs : Nat → BS} {is : Nat → Bool}
theorem Pl.kept (h : Pl w own F I B0 vs fs is) (hK : Kept w w' own own') : Pl w' own' F I B0 vs fs is := by
  refine ⟨h.bf.same (hK.block F h.bf.lt h.nf), h.bi.same (hK.block I h.bi.lt h.ni), free_kept hK h.bf.lt h.nf, free_kept hK h.bi.lt h.ni, h.fi, fun k hk => ?_, h.dis⟩
  obtain ⟨h1, h2⟩ := h.val k hk
  refine ⟨own_same h1 fun c hc => hK.block c (h1.lt c hc).2 (h2 c hc).1, fun c hc => ⟨free_kept hK (h1.lt c hc).2 (h2 c hc).1, (h2 c hc).2⟩⟩
theorem Pl.cellF (h : Pl w own F I B0 vs fs is) {a : Nat} (ha : a < 3) : w.cell? ⟨F, a, none⟩ = some (vs a) := h.bf.cell a _ (at_list vs ha)
theorem Pl.cellI (h : Pl w own F I B0 vs fs is) {a : Nat} (ha : a < 3) : w.cell? ⟨I, a, none⟩ = some (.bool (is a)) := h.bi.cell a _ (at_list (fun k => .bool (is k)) ha)
/-- A truth is another one. -/
theorem Pl.setI (h : Pl w own F I B0 vs fs is) {a : Nat} (ha : a < 3) (b : Bool) : Pl (w.setCell ⟨I, a, none⟩ (.bool b)) own F I B0 vs fs (upd is a b) := by
  have hg := grown_set w ⟨I, a, none⟩ (.bool b)
  refine ⟨h.bf.same (hg.block F h.bf.lt (by simp; exact h.fi)), ?_, h.nf, h.ni, h.fi, fun k hk => ?_, h.dis⟩
  · have h1 := h.bi.set a (.bool b)
    rw [upd_list (fun k => .bool (is k)) ha] at h1
    have e : ∀ k, upd (fun k => Value.bool (is k)) a (.bool b) k = .bool (upd is a b k) := fun k => by unfold upd; split <;> rfl
    rw [e, e, e] at h1
    exact h1
  · obtain ⟨h1, h2⟩ := h.val k hk
    exact ⟨own_same h1 fun c hc => hg.block c (h1.lt c hc).2 (by simp; exact (h2 c hc).2.2), h2⟩
/-- A slice is nil. -/
theorem Pl.nilF (h : Pl w own F I B0 vs fs is) {a : Nat} (ha : a < 3) : Pl (w.setCell ⟨F, a, none⟩ (.slice none 0 0)) own F I B0 (upd vs a (.slice none 0 0)) (upd fs a []) is := by
  have hg := grown_set w ⟨F, a, none⟩ (.slice none 0 0)
  refine ⟨?_, h.bi.same (hg.block I h.bi.lt (by simp; exact fun e => h.fi e.symm)), h.nf, h.ni, h.fi, fun k hk => ?_, fun j k c hj hk hne hc => ?_⟩
  · have h1 := h.bf.set a (.slice none 0 0)
    rw [upd_list vs ha] at h1
    exact h1
  · by_cases e : k = a
    · subst e
      rw [upd_same, upd_same]
      exact ⟨Own.nil _ _, fun c hc => by simp [Value.ownBlock] at hc⟩
    · rw [upd_other _ _ e, upd_other _ _ e]
      obtain ⟨h1, h2⟩ := h.val k hk
      exact ⟨own_same h1 fun c hc => hg.block c (h1.lt c hc).2 (by simp; exact (h2 c hc).2.1), h2⟩
  · by_cases ej : j = a
    · subst ej
      rw [upd_same] at hc
      simp [Value.ownBlock] at hc
    · rw [upd_other _ _ ej] at hc
      by_cases ek : k = a
      · subst ek
        rw [upd_same]
        simp [Value.ownBlock]
      · rw [upd_other _ _ ek]
        exact h.dis j k c hj hk hne hc
/-- A slice is moved: another one's place has it, its own is nil. -/
theorem Pl.moveF (h : Pl w own F I B0 vs fs is) {a b : Nat} (ha : a < 3) (hb : b < 3) (hab : a ≠ b) :
    Pl ((w.setCell ⟨F, b, none⟩ (vs a)).setCell ⟨F, a, none⟩ (.slice none 0 0)) own F I B0 (upd (upd vs b (vs a)) a (.slice none 0 0)) (upd (upd fs b (fs a)) a []) is := by
  have hg := grown_trans (grown_set w ⟨F, b, none⟩ (vs a)) (grown_set (w.setCell ⟨F, b, none⟩ (vs a)) ⟨F, a, none⟩ (.slice none 0 0))
  have key : ∀ k, k < 3 → (k = a ∧ upd (upd vs b (vs a)) a (.slice none 0 0) k = .slice none 0 0 ∧ upd (upd fs b (fs a)) a [] k = []) ∨ (k = b ∧ upd (upd vs b (vs a)) a (.slice none 0 0) k = vs a ∧ upd (upd fs b (fs a)) a [] k = fs a) ∨ (k ≠ a ∧ k ≠ b ∧ upd (upd vs b (vs a)) a (.slice none 0 0) k = vs k ∧ upd (upd fs b (fs a)) a [] k = fs k) := fun k hk => by
    by_cases e1 : k = a
    · subst e1
      exact .inl ⟨rfl, upd_same _ _ _, upd_same _ _ _⟩
    · by_cases e2 : k = b
      · subst e2
        exact .inr (.inl ⟨rfl, by rw [upd_other _ _ e1, upd_same], by rw [upd_other _ _ e1, upd_same]⟩)
      · exact .inr (.inr ⟨e1, e2, by rw [upd_other _ _ e1, upd_other _ _ e2], by rw [upd_other _ _ e1, upd_other _ _ e2]⟩)
  refine ⟨?_, h.bi.same (hg.block I h.bi.lt (by simp; exact fun e => h.fi e.symm)), h.nf, h.ni, h.fi, fun k hk => ?_, fun j k c hj hk hne hc => ?_⟩
  · have h1 := h.bf.set b (vs a)
    rw [upd_list vs hb] at h1
    have h2 := h1.set a (.slice none 0 0)
    rw [upd_list _ ha] at h2
    exact h2
  · have old : ∀ q, q < 3 → Own ((w.setCell ⟨F, b, none⟩ (vs a)).setCell ⟨F, a, none⟩ (.slice none 0 0)) B0 (vs q) (fs q) ∧ ∀ c, (vs q).ownBlock = some c → own c = none ∧ c ≠ F ∧ c ≠ I := fun q hq => by
      obtain ⟨h1, h2⟩ := h.val q hq
      exact ⟨own_same h1 fun c hc => hg.block c (h1.lt c hc).2 (by simp; exact (h2 c hc).2.1), h2⟩
    rcases key k hk with ⟨_, e1, e2⟩ | ⟨_, e1, e2⟩ | ⟨_, _, e1, e2⟩
    · rw [e1, e2]
      exact ⟨Own.nil _ _, fun c hc => by simp [Value.ownBlock] at hc⟩
    · rw [e1, e2]; exact old a ha
    · rw [e1, e2]; exact old k hk
  · rcases key j hj with ⟨_, e1, _⟩ | ⟨ej, e1, _⟩ | ⟨j1, j2, e1, _⟩
    · rw [e1] at hc; simp [Value.ownBlock] at hc
    · rw [e1] at hc
      rcases key k hk with ⟨_, e2, _⟩ | ⟨ek, _, _⟩ | ⟨k1, k2, e2, _⟩
      · rw [e2]; simp [Value.ownBlock]
      · omega
      · rw [e2]; exact h.dis a k c ha hk (fun e => k1 e.symm) hc
    · rw [e1] at hc
      rcases key k hk with ⟨_, e2, _⟩ | ⟨_, e2, _⟩ | ⟨_, _, e2, _⟩
      · rw [e2]; simp [Value.ownBlock]
      · rw [e2]; exact h.dis j a c hj ha j1 hc
      · rw [e2]; exact h.dis j k c hj hk hne hc
/-- Bytes behind a slice. -/
theorem Pl.addF (h : Pl w own F I B0 vs fs is) {a : Nat} (ha : a < 3) {v' : Value} {l : BS} (ho : Own w' B0 v' (fs a ++ l)) (hg : w.grownBy w' (vs a).ownBlock) (hb : v'.ownBlock = (vs a).ownBlock ∨ v'.ownBlock = some w.heap.size) (hnew : own w.heap.size = none) :
    Pl (w'.setCell ⟨F, a, none⟩ v') own F I B0 (upd vs a v') (upd fs a (fs a ++ l)) is := by
  obtain ⟨ha1, ha2⟩ := h.val a ha
  have hg2 := grown_set w' ⟨F, a, none⟩ v'
  have nF : some F ≠ (vs a).ownBlock := fun e => (ha2 F e.symm).2.1 rfl
  have nI : some I ≠ (vs a).ownBlock := fun e => (ha2 I e.symm).2.2 rfl
  have hv' : ∀ c, v'.ownBlock = some c → own c = none ∧ c ≠ F ∧ c ≠ I := fun c hc => by
    rcases hb with e | e
    · exact ha2 c (e ▸ hc)
    · rw [e] at hc
      cases hc
      have := h.bf.lt
      have := h.bi.lt
      exact ⟨hnew, by omega, by omega⟩
  refine ⟨?_, (h.bi.same (hg.block I h.bi.lt nI)).same (hg2.block I (Nat.lt_of_lt_of_le h.bi.lt hg.size) (by simp; exact fun e => h.fi e.symm)), h.nf, h.ni, h.fi, fun k hk => ?_, fun j k c hj hk hne hc => ?_⟩
  · have h1 := (h.bf.same (hg.block F h.bf.lt nF)).set a v'
    rw [upd_list vs ha] at h1
    exact h1
  · by_cases e : k = a
    · subst e
      rw [upd_same, upd_same]
      exact ⟨own_same ho fun c hc => hg2.block c (ho.lt c hc).2 (by simp; exact (hv' c hc).2.1), hv'⟩
    · rw [upd_other _ _ e, upd_other _ _ e]
      obtain ⟨h1, h2⟩ := h.val k hk
      refine ⟨own_same h1 fun c hc => ?_, h2⟩
      have hlt := (h1.lt c hc).2
      have hne : some c ≠ (vs a).ownBlock := fun e2 => h.dis k a c hk ha e hc e2.symm
      exact (hg2.block c (Nat.lt_of_lt_of_le hlt hg.size) (by simp; exact (h2 c hc).2.1)).trans (hg.block c hlt hne)
  · have new : ∀ q, q < 3 → q ≠ a → ∀ c, (vs q).ownBlock = some c → v'.ownBlock ≠ some c := fun q hq hqa c hc e => by
      rcases hb with e2 | e2
      · exact h.dis q a c hq ha hqa hc (e2 ▸ e)
      · rw [e2] at e
        cases e
        have := ((h.val q hq).1.lt _ hc).2
        omega
    by_cases ej : j = a
    · subst ej
      rw [upd_same] at hc
      rw [upd_other _ _ (fun e => hne e.symm)]
      exact fun e => new k hk (fun e => hne e.symm) c e hc
    · rw [upd_other _ _ ej] at hc
      by_cases ek : k = a
      · subst ek
        rw [upd_same]
        exact new j hj ej c hc
      · rw [upd_other _ _ ek]
        exact h.dis j k c hj hk hne hc
theorem cell_some {w : World} {b : Nat} {l : List Value} {t : TypeId} (h : Blk w b l t) {k : Nat} (hk : k < l.length) : ∃ u, w.cell? ⟨b, k, none⟩ = some u := ⟨l[k], h.cell k _ (by simp [hk])⟩
theorem Pl.move4 (h : Pl w own F I B0 vs fs is) {a b : Nat} (ha : a < 3) (hb : b < 3) (hab : a ≠ b) {v : Value} (hv : vs a = v) :
    (w.setCell ⟨F, b, none⟩ v).frozen? ⟨I, b, none⟩ = false ∧ ((w.setCell ⟨F, b, none⟩ v).setCell ⟨I, b, none⟩ (.bool true)).frozen? ⟨F, a, none⟩ = false ∧
    (((w.setCell ⟨F, b, none⟩ v).setCell ⟨I, b, none⟩ (.bool true)).setCell ⟨F, a, none⟩ (.slice none 0 0)).frozen? ⟨I, a, none⟩ = false ∧
    (∃ u, (w.setCell ⟨F, b, none⟩ v).cell? ⟨I, b, none⟩ = some u) ∧ (∃ u, ((w.setCell ⟨F, b, none⟩ v).setCell ⟨I, b, none⟩ (.bool true)).cell? ⟨F, a, none⟩ = some u) ∧
    (∃ u, (((w.setCell ⟨F, b, none⟩ v).setCell ⟨I, b, none⟩ (.bool true)).setCell ⟨F, a, none⟩ (.slice none 0 0)).cell? ⟨I, a, none⟩ = some u) ∧
    Pl ((((w.setCell ⟨F, b, none⟩ v).setCell ⟨I, b, none⟩ (.bool true)).setCell ⟨F, a, none⟩ (.slice none 0 0)).setCell ⟨I, a, none⟩ (.bool false)) own F I B0 (upd (upd vs b (vs a)) a (.slice none 0 0)) (upd (upd fs b (fs a)) a []) (upd (upd is b true) a false) := by
  subst hv
  have hFI := h.fi
  have hIF : I ≠ F := fun e => h.fi e.symm
  have g1 := grown_set w ⟨F, b, none⟩ (vs a)
  obtain ⟨w1, hw1⟩ : ∃ w1, w1 = w.setCell ⟨F, b, none⟩ (vs a) := ⟨_, rfl⟩
  have F1 := h.bf.set b (vs a)
  have I1 := h.bi.same (g1.block I h.bi.lt (by simp; omega))
  rw [← hw1] at g1 F1 I1 ⊢
  have g2 := grown_set w1 ⟨I, b, none⟩ (.bool true)
  have F2 := F1.same (g2.block F F1.lt (by simp; omega))
  have I2 := I1.set b (.bool true)
  obtain ⟨w2, hw2⟩ : ∃ w2, w2 = w1.setCell ⟨I, b, none⟩ (.bool true) := ⟨_, rfl⟩
  rw [← hw2] at g2 F2 I2 ⊢
  have g3 := grown_set w2 ⟨F, a, none⟩ (.slice none 0 0)
  have F3 := F2.set a (.slice none 0 0)
  have I3 := I2.same (g3.block I I2.lt (by simp; omega))
  obtain ⟨w3, hw3⟩ : ∃ w3, w3 = w2.setCell ⟨F, a, none⟩ (.slice none 0 0) := ⟨_, rfl⟩
  rw [← hw3] at g3 F3 I3 ⊢
  have g4 := grown_set w3 ⟨I, a, none⟩ (.bool false)
  have F4 := F3.same (g4.block F F3.lt (by simp; omega))
  have I4 := I3.set a (.bool false)
  obtain ⟨w4, hw4⟩ : ∃ w4, w4 = w3.setCell ⟨I, a, none⟩ (.bool false) := ⟨_, rfl⟩
  rw [← hw4] at g4 F4 I4 ⊢
  have fr1 := I1.free b
  have fr2 := F2.free a
  have fr3 := I3.free a
  have ce1 := cell_some I1 (k := b) (by simpa using hb)
  have ce2 := cell_some F2 (k := a) (by simpa using ha)
  have ce3 := cell_some I3 (k := a) (by simpa using ha)
  have keep : ∀ c, c < w.heap.size → c ≠ F → c ≠ I → w4.heap[c]? = w.heap[c]? := fun c hc cF cI => by
    have n1 : some c ≠ some F := by simp; exact cF
    have n2 : some c ≠ some I := by simp; exact cI
    have h1 := g1.block c hc n1
    have l1 := Nat.lt_of_lt_of_le hc g1.size
    have h2 := g2.block c l1 n2
    have l2 := Nat.lt_of_lt_of_le l1 g2.size
    have h3 := g3.block c l2 n1
    have l3 := Nat.lt_of_lt_of_le l2 g3.size
    have h4 := g4.block c l3 n2
    exact h4.trans (h3.trans (h2.trans h1))
  clear hw1 hw2 hw3 hw4 g1 g2 g3 g4 F1 F2 F3 I1 I2 I3
  refine ⟨fr1, fr2, fr3, ce1, ce2, ce3, ?_⟩
  have key : ∀ k, k < 3 → (k = a ∧ upd (upd vs b (vs a)) a (.slice none 0 0) k = .slice none 0 0 ∧ upd (upd fs b (fs a)) a [] k = []) ∨ (k = b ∧ upd (upd vs b (vs a)) a (.slice none 0 0) k = vs a ∧ upd (upd fs b (fs a)) a [] k = fs a) ∨ (k ≠ a ∧ k ≠ b ∧ upd (upd vs b (vs a)) a (.slice none 0 0) k = vs k ∧ upd (upd fs b (fs a)) a [] k = fs k) := fun k hk => by
    by_cases e1 : k = a
    · subst e1
      exact .inl ⟨rfl, upd_same _ _ _, upd_same _ _ _⟩
    · by_cases e2 : k = b
      · subst e2
        exact .inr (.inl ⟨rfl, by rw [upd_other _ _ e1, upd_same], by rw [upd_other _ _ e1, upd_same]⟩)
      · exact .inr (.inr ⟨e1, e2, by rw [upd_other _ _ e1, upd_other _ _ e2], by rw [upd_other _ _ e1, upd_other _ _ e2]⟩)
  refine ⟨?_, ?_, h.nf, h.ni, h.fi, fun k hk => ?_, fun j k c hj hk hne hc => ?_⟩
  · rw [upd_list vs hb, upd_list _ ha] at F4
    exact F4
  · rw [upd_list (fun k => .bool (is k)) hb, upd_list _ ha] at I4
    have e : ∀ k, upd (upd (fun k => Value.bool (is k)) b (.bool true)) a (.bool false) k = .bool (upd (upd is b true) a false k) := fun k => by unfold upd; split <;> (try split) <;> rfl
    rw [e, e, e] at I4
    exact I4
  · have old : ∀ q, q < 3 → Own w4 B0 (vs q) (fs q) ∧ ∀ c, (vs q).ownBlock = some c → own c = none ∧ c ≠ F ∧ c ≠ I := fun q hq => by
      obtain ⟨h1, h2⟩ := h.val q hq
      exact ⟨own_same h1 fun c hc => keep c (h1.lt c hc).2 (h2 c hc).2.1 (h2 c hc).2.2, h2⟩
    rcases key k hk with ⟨_, e1, e2⟩ | ⟨_, e1, e2⟩ | ⟨_, _, e1, e2⟩
    · rw [e1, e2]
      exact ⟨Own.nil _ _, fun c hc => by simp [Value.ownBlock] at hc⟩
    · rw [e1, e2]; exact old a ha
    · rw [e1, e2]; exact old k hk
  · rcases key j hj with ⟨_, e1, _⟩ | ⟨ej, e1, _⟩ | ⟨j1, j2, e1, _⟩
    · rw [e1] at hc; simp [Value.ownBlock] at hc
    · rw [e1] at hc
      rcases key k hk with ⟨_, e2, _⟩ | ⟨ek, _, _⟩ | ⟨k1, k2, e2, _⟩
      · rw [e2]; simp [Value.ownBlock]
      · omega
      · rw [e2]; exact h.dis a k c ha hk (fun e => k1 e.symm) hc
    · rw [e1] at hc
      rcases key k hk with ⟨_, e2, _⟩ | ⟨_, e2, _⟩ | ⟨_, _, e2, _⟩
      · rw [e2]; simp [Value.ownBlock]
      · rw [e2]; exact h.dis j a c hj ha j1 hc
      · rw [e2]; exact h.dis j k c hj hk hne hc
end
end Go.Proofs.Ytjkfmgppmpjcmaa
