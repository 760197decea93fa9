/- Three places: what a store makes of them. No condition but what each statement names. -/
import Derived.Test.YtdgaipdpebinbaaDkSt
import Derived.Deep.RegionLawGrows
set_option linter.unusedVariables false
set_option linter.unusedSimpArgs false
namespace Go.Proofs.Ytdgaipdpebinbaa
open Go.RowKit Go.Maps Go.Shelf Go.Sort Go.ChangeShapes Go.WideShapes Go.ChangeAt

theorem step_append_bytes {ops : Array Oper} {o : Oper} {a : Act} {K : Act → World → Prop} {Q : Exit → Act → World → Prop} {E : Prop} (w : World) (hgd : o.guard = none) (s x : Operand)
    (ho : o.op = .call { callee := .builtin .append, args := #[s, x], argTypes := #[30, 30] })
    (base : Nat) (v : Value) (l : List UInt8) (hs : a.eval s = v) (hown : Own w base v l) (A : Option Addr) (m c : Nat) (l' : List UInt8) (hx : a.eval x = .slice A m c) (hm : l'.length = m) (hr : Rd w A l')
    (hbytes : l.length + l'.length ≤ 200000000000000) (hbase : base ≤ w.heap.size)
    (h : ∀ v' w', Own w' base v' (l ++ l') → w.grownBy w' v.ownBlock → (v'.ownBlock = v.ownBlock ∨ v'.ownBlock = some w.heap.size) → K (a.put o.dst v') w') :
    if Region.wanted o (yielded ops a.tmps) = true then Oper.wp Try.prog o a w K Q else E := by
  have hw : Region.wanted o (yielded ops a.tmps) = true := by simp [Region.wanted, hgd]
  rw [if_pos hw]
  obtain ⟨v', w', hr, h2, h3, h5⟩ := run_append_bytes w o.type base v l hown A m c l' hm hr hbytes hbase
  unfold Oper.wp execOp
  simp only [ho, resolve, invoke, builtin, Sem.run_bind, Sem.run_pure, Result.andThen_ok, List.map_toArray, List.map_cons, List.map_nil, hs, hx, hr]
  exact h v' w' h2 h3 h5

theorem own_same {w w' : World} {B : Nat} {v : Value} {l : BS} (h : Own w B v l) (hs : ∀ c, v.ownBlock = some c → w'.heap[c]? = w.heap[c]?) : Own w' B v l := by
  rcases h.2 with ⟨e, hn⟩ | ⟨g, cap, cur, e, hb, hg, r⟩
  · exact ⟨h.1, .inl ⟨e, hn⟩⟩
  · exact ⟨h.1, .inr ⟨g, cap, cur, e, hb, (hs g (by rw [e]; rfl)).trans hg, r⟩⟩
def upd {α : Type} (f : Nat → α) (a : Nat) (x : α) : Nat → α := fun k => if k = a then x else f k
theorem upd_same {α : Type} (f : Nat → α) (a : Nat) (x : α) : upd f a x a = x := by simp [upd]
theorem upd_other {α : Type} (f : Nat → α) {a k : Nat} (x : α) (h : k ≠ a) : upd f a x k = f k := by simp [upd, h]
theorem upd_list (f : Nat → Value) {a : Nat} (ha : a < 3) (x : Value) : [f 0, f 1, f 2].set a x = [upd f a x 0, upd f a x 1, upd f a x 2] := by
  rcases a with _ | _ | _ | a
  · rfl
  · rfl
  · rfl
  · omega
theorem at_list (f : Nat → Value) {a : Nat} (ha : a < 3) : ([f 0, f 1, f 2] : List Value)[a]? = some (f a) := by
  rcases a with _ | _ | _ | a
  · rfl
  · rfl
  · rfl
  · omega

theorem cell_some {w : World} {b : Nat} {l : List Value} {t : TypeId} (h : Blk w b l t) {k : Nat} (hk : k < l.length) : ∃ u, w.cell? ⟨b, k, none⟩ = some u := ⟨l[k], h.cell k _ (by simp [hk])⟩
