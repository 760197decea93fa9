/- What the program's disk does, its small helpers: contracts over the translated program. No condition but that the disk lies in memory as said, and what each statement names. -/
import Derived.Test.YtncpkblgiepdpaaGreatDkA
import Derived.LoopTactic
import Derived.Deep.QuietTactic
import Derived.BigQuiet
import Derived.StillTailTactics
import Derived.RegionTactic
import Derived.ChangeAlike
import Derived.Outline
import Derived.Lib.Hide
import Derived.WalkSpells
set_option linter.unusedVariables false
namespace Go.Proofs.YtncpkblgiepdpaaGreat
open Go.RowKit Go.Maps

def GotV (w : World) (v : Value) (e : Ending) (w' : World) : Prop := e = .returned v ∧ w' = w

section
variable {w : World} {own : Nat → Option Role} {d bn bk : Nat} {loc : Nat → Nat} {s : DS} {L : Nat → Prop}
theorem At.cellD (h : At w own d bn bk loc s L) (k : Nat) (v : Value) (hk : ∀ vw, (diskCells s bn bk vw)[k]? = some v) : w.cell? ⟨d, k, none⟩ = some v := by
  obtain ⟨vw, b1, _⟩ := h.blk
  exact b1.cell k v (hk vw)
theorem At.freeD (h : At w own d bn bk loc s L) (k : Nat) : w.frozen? ⟨d, k, none⟩ = false := by
  obtain ⟨vw, b1, _⟩ := h.blk
  exact b1.free k

def isN (x : ByteArray) : Bool := decide (0 < x.size) && decide (x.size ≤ 40)
theorem isName_any (x : ByteArray) (w : World) (hx : x.size ≤ maxLen) : Calls Tryz.prog 91 #[.string x] w (GotV w (.bool (isN x))) := by
  unfold maxLen at hx
  by_cases h1 : 0 < x.size <;> by_cases h2 : x.size ≤ 40
  all_goals
    go_enter Tryz.func91, Tryz.ntmps91
    go_wp2
    go_ret
    exact ⟨by simp [isN, h1, h2] <;> omega, rfl⟩

theorem isNone_any (h : At w own d bn bk loc s L) : Calls Tryz.prog 72 #[.pointer (some ⟨d, 0, none⟩)] w (GotV w (.bool false)) := by
  have c4 := h.cellD 4 _ fun _ => rfl
  have hq := fun w => run_eql_map_nil (P := Tryz.prog) w 75 _ _ (some bn) Tryz.underlying75
  go_enter Tryz.func72, Tryz.ntmps72
  go_wp2
  go_ret
  exact ⟨rfl, rfl⟩

theorem refusal_any (h : At w own d bn bk loc s L) (hd : s.dead = false) : Calls Tryz.prog 67 #[.pointer (some ⟨d, 0, none⟩)] w (GotV w (.int .i64 0)) := by
  have c0 := h.cellD 0 _ fun _ => rfl
  rw [hd] at c0
  go_enter Tryz.func67, Tryz.ntmps67
  go_wp2_with ((with_reducible refine (isNone_any h).mono ?_); rintro e w' ⟨rfl, rfl⟩)
  go_ret
  exact ⟨rfl, rfl⟩
theorem refusal_dead (h : At w own d bn bk loc s L) (hd : s.dead = true) : Calls Tryz.prog 67 #[.pointer (some ⟨d, 0, none⟩)] w (GotV w (.int .i64 51)) := by
  have c0 := h.cellD 0 _ fun _ => rfl
  rw [hd] at c0
  go_enter Tryz.func67, Tryz.ntmps67
  go_wp2_with ((with_reducible refine (isNone_any h).mono ?_); rintro e w' ⟨rfl, rfl⟩)
  go_ret
  exact ⟨rfl, rfl⟩

theorem zeroP (w : World) : (zeroValue 132).run Tryz.prog w = .ok (.pointer none) w := by kernel_rfl

/-- A look-up of a name. -/
theorem wpList_lookup_ptr {ops : Array Oper} {rest : List Oper} {o : Oper} {a : Act} {Q : Exit → Act → World → Prop} (w : World) (hg : o.guard = none) (m x : Operand) (hop : o.op = Op.lookup 75 m x false)
    (b : Nat) (loc : Nat → Nat) (M : Nm) (hm : a.eval m = .map (some b)) (hown : MapAt w b loc M) (t : ByteArray) (hx : a.eval x = .string t) (hs : t.size ≤ maxLen)
    (hK : wpList Tryz.prog ops Q rest (a.put o.dst (pv ((getE M t.data.toList).map loc))) w) : wpList Tryz.prog ops Q (o :: rest) a w := by
  refine wpList_plain hg fun K' hK' => ?_
  obtain ⟨v, ps, hrun, hv⟩ := World.ownsMap.lookup hown keyedS Tryz.underlying75 (zeroP w) (zd := .nil) (zp := []) rfl (key := .string t) (kl := .string t.data.toList) (WideMaps.keyOf_string_mk Tryz.underlying9 hs)
  have e : v = pv ((getE M t.data.toList).map loc) := by
    rw [DM_at] at hv
    cases hg : getE M t.data.toList with
    | none => rw [hg] at hv; exact RP_none hv
    | some i => rw [hg] at hv; exact RP_some hv
  subst e
  unfold Oper.wp
  simp [execOp, hop, hm, hx, hrun, Result.andThen]
  exact hK' _ _ hK

/-- The file of a name. -/
def GotFile (w : World) (o : Option Nat) (e : Ending) (w' : World) : Prop :=
  e = .returned (.tuple #[pv o, .int .i64 (if o.isSome then 0 else 50)]) ∧ w' = w
theorem find_any (h : At w own d bn bk loc s L) (hd : s.dead = false) (t : ByteArray) (hs : t.size ≤ maxLen) :
    Calls Tryz.prog 98 #[.pointer (some ⟨d, 0, none⟩), .string t] w (GotFile w ((getE s.now t.data.toList).map loc)) := by
  have c4 := h.cellD 4 _ fun _ => rfl
  have hm := h.nowM
  cases hg : getE s.now t.data.toList with
  | none =>
    go_enter Tryz.func98, Tryz.ntmps98
    go_wp2_with (first | ((with_reducible refine (refusal_any h hd).mono ?_); rintro e w' ⟨rfl, rfl⟩) | (at_lookup; refine wpList_lookup_ptr _ rfl _ _ rfl bn loc s.now rfl hm t rfl hs ?_; rw [hg]; simp only [Option.map_none, pv]))
    go_ret2
    exact ⟨rfl, rfl⟩
  | some i =>
    go_enter Tryz.func98, Tryz.ntmps98
    go_wp2_with (first | ((with_reducible refine (refusal_any h hd).mono ?_); rintro e w' ⟨rfl, rfl⟩) | (at_lookup; refine wpList_lookup_ptr _ rfl _ _ rfl bn loc s.now rfl hm t rfl hs ?_; rw [hg]; simp only [Option.map_some, pv]))
    go_ret2
    exact ⟨rfl, rfl⟩
theorem find_dead (h : At w own d bn bk loc s L) (hd : s.dead = true) (t : ByteArray) :
    Calls Tryz.prog 98 #[.pointer (some ⟨d, 0, none⟩), .string t] w (GotV w (.tuple #[.pointer none, .int .i64 51])) := by
  go_enter Tryz.func98, Tryz.ntmps98
  go_wp2_with ((with_reducible refine (refusal_dead h hd).mono ?_); rintro e w' ⟨rfl, rfl⟩)
  go_ret2
  exact ⟨rfl, rfl⟩

theorem begun_any (h : At w own d bn bk loc s L) : Calls Tryz.prog 92 #[.pointer (some ⟨d, 0, none⟩)] w (GotV w (.int .i64 0)) := by
  have c7 := h.cellD 7 _ fun _ => rfl
  go_enter Tryz.func92, Tryz.ntmps92
  go_wp2
  go_ret
  exact ⟨rfl, rfl⟩

theorem workOn_any (h : At w own d bn bk loc s L) (hd : s.dead = false) (t : ByteArray) (hs : t.size ≤ maxLen) :
    Calls Tryz.prog 117 #[.pointer (some ⟨d, 0, none⟩), .string t] w (GotFile w ((getE s.now t.data.toList).map loc)) := by
  cases hg : getE s.now t.data.toList with
  | none =>
    have hf := find_any h hd t hs
    rw [hg] at hf
    go_enter Tryz.func117, Tryz.ntmps117
    go_wp2_with (first | ((with_reducible refine hf.mono ?_); rintro e w' ⟨rfl, rfl⟩; simp only [Option.map_none, pv]) | ((with_reducible refine (begun_any h).mono ?_); rintro e w' ⟨rfl, rfl⟩))
    go_ret2
    exact ⟨rfl, rfl⟩
  | some i =>
    have hf := find_any h hd t hs
    rw [hg] at hf
    go_enter Tryz.func117, Tryz.ntmps117
    go_wp2_with (first | ((with_reducible refine hf.mono ?_); rintro e w' ⟨rfl, rfl⟩; simp only [Option.map_some, pv]) | ((with_reducible refine (begun_any h).mono ?_); rintro e w' ⟨rfl, rfl⟩))
    go_ret2
    exact ⟨rfl, rfl⟩
end
end Go.Proofs.YtncpkblgiepdpaaGreat
