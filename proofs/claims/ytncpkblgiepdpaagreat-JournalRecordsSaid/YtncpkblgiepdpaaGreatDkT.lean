/- What a deed of a disk does, and Crash: contracts over the translated program. No condition but that the disk lies in memory as said, and what each statement names. -/
import Derived.Test.YtncpkblgiepdpaaGreatDkR
set_option linter.unusedVariables false
namespace Go.Proofs.YtncpkblgiepdpaaGreat
open Go.RowKit Go.Maps Go.Shelf Go.Sort

section
variable {w : World} {own : Nat → Option Role} {d bn bk : Nat} {loc : Nat → Nat} {s : DS} {L : Nat → Prop}

theorem good_of (hI : DInv s) (hb : Bnd s 1000 1000000) : Good s := ⟨hI, by have := hb.files; have := hb.works; have := hb.now; have := hb.kept; have := hb.data; unfold bulk; omega⟩
theorem play_len (s : DS) (k : Nat) : (playK s k).length ≤ s.kept.length + k := by
  have key : ∀ (ws : List Wk) (m : Nm), (ws.foldl stepN m).length ≤ m.length + ws.length := by
    intro ws
    induction ws with
    | nil => intro m; simp
    | cons x r ih =>
      intro m
      have h1 := ih (stepN m x)
      have h2 := stepN_len m x
      simp only [List.foldl_cons, List.length_cons]
      omega
  have := key (s.works.take k) s.kept
  have h2 : (s.works.take k).length ≤ k := by simp; omega
  unfold playK
  omega
theorem fallOk_of (hI : DInv s) (hS : Short s) (hb : Bnd s 1000 1000000) (hroom : s.room ≤ 16777216) (keep : List Int) : FallOk s keep where
  few := by have := hb.works; omega
  does := fun k hk => mid_doOk (good_of hI hb) hk
  short := hS
  ok := okM_playK hI _
  inj := fun i => hI.inj _ i
  len := by
    have := play_len s (manyE s keep)
    have h2 : manyE s keep ≤ s.works.length := brE_le _ _ _
    have := hb.kept
    have := hb.works
    omega
  mrk := fun p hp f hf => hI.mrk _ _ hf
  fit := fit_of_good (good_of hI hb)
  ref := fun p hp => by
    rcases play_mem _ hp with h1 | ⟨y, hy, e⟩
    · exact .inr (.inl ⟨p, h1, rfl⟩)
    · exact .inr (.inr ⟨y, List.mem_of_mem_take hy, e⟩)
  births := by have := hb.files; omega
  room := hroom
theorem fallOk_calm (hc : Calm s) (hj : ∀ i, cntE i s.now ≤ 1) (hl : s.now.length ≤ 1000000) (hf : Fit s.files) (hb : s.files.length ≤ 1099511627776) (hroom : s.room ≤ 16777216) (keep : List Int) : FallOk s keep := by
  have hw := hc.works
  have hp : playK s (manyE s keep) = s.now := by
    unfold playK
    rw [hw, List.take_nil]
    exact hc.same
  refine ⟨by rw [hw]; simp, fun k hk => ?_, fun x hx => ?_, by rw [hp]; exact hc.ok, by rw [hp]; exact hj, by rw [hp]; exact hl, fun p hpm f hff => ?_, hf, fun p hpm => ?_, hb, hroom⟩
  · rw [hw] at hk; simp at hk
  · rw [hw] at hx; simp at hx
  · rw [hp] at hpm
    obtain ⟨g, hg, e⟩ := hc.mrk p hpm
    rw [hg] at hff
    cases hff
    omega
  · rw [hp] at hpm
    exact ref_now hpm

theorem crash_any (hA : At w own d bn bk loc s (Ref s)) (hd : s.dead = false) (A : Option Addr) (m c : Nat) (keep : List Int) (hl : keep.length = m) (hr : RdI w A keep) (h64 : In64 keep) (hO : 0 < keep.length → ∀ p, A = some p → own p.block = none) (hf : FallOk s keep) :
    Calls Tryz.prog 21 #[.pointer (some ⟨d, 0, none⟩), .slice A m c] w (GotA w own d (.tuple #[]) (fallE s keep)) := by
  have hq := refusal_any hA hd
  have hfl := fall_any hA A m c keep hl hr h64 hO hf
  clear hd hl
  go_enter Tryz.func21, Tryz.ntmps21
  go_wp2_with (go_at_call 67; (with_reducible refine hq.mono ?_); rintro e w ⟨rfl, rfl⟩)
  refine hfl.mono ?_
  rintro e w2 ⟨rfl, own2, bn2, hA2, hK2⟩
  go_wp2
  go_end0
  exact ⟨rfl, own2, ⟨bn2, bk, loc, hA2⟩, hK2⟩

theorem bring_in (i : Int) (n : Nat) (w : World) (hi : 0 ≤ i) (h2 : i ≤ 9223372036854775807) (hn : 0 < n) (hn2 : n ≤ 9223372036854775807) :
    Calls Tryz.prog 14 #[.int .i64 i, .int .i64 n] w (GotV w (.int .i64 (i % n))) := by
  have hm0 : 0 ≤ i % (n : Int) := Int.emod_nonneg _ (by omega)
  go_enter Tryz.func14, Tryz.ntmps14
  go_wp2_with fail
  go_ret
  exact ⟨rfl, rfl⟩

theorem Kept.alloc {a w : World} {ob : Obj} {o o' : Nat → Option Role} (h : Kept (a.alloc ob) w o o') : Kept a w o o' :=
  (Kept.of_below ((Below.refl _ a).alloc (Nat.le_refl _) ob) o).trans h

end
end Go.Proofs.YtncpkblgiepdpaaGreat
