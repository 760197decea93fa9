/- What the law's works asks, by the kernel. Under: math/bits' table as it was laid. -/
import Derived.Test.YteedmkokbapkgaaDoorRgJm
set_option linter.unusedVariables false
set_option linter.unusedSimpArgs false
namespace Go.Proofs.YteedmkokbapkgaaDoor
open Go.RowKit

def pA : S4 := oneS 97
def pB : S4 := oneS 98
def tAB : Rx := .seq (.set pA) (.star (.set pB))
def tA0 : Rx := .alt (.set pA) .nil
def tABs : Rx := .star (.seq (.set pA) (.set pB))
def pABCX : S4 := s4 (allW nilW (natL [97, 98, 99, 120]))
def pAll : S4 := spanS 0 255
deriving instance DecidableEq for Res
theorem par_ab : parM 60 .ways [97, 98, 42] = .ok tAB [] := by decide +kernel
theorem par_a0 : parM 60 .ways [97, 124] = .ok tA0 [] := by decide +kernel
theorem par_f1 : parM 60 .ways [40, 97] = .bad [] := by decide +kernel
theorem par_f2 : parM 60 .ways [97, 124, 42] = .bad [42] := by decide +kernel
theorem par_f3 : parM 60 .ways [91, 98, 45, 97, 93] = .bad [97, 93] := by decide +kernel
theorem par_f4 : parM 60 .ways [91, 93] = .bad [93] := by decide +kernel
theorem tk_nil : takesE (flat 0 tAB) [] = (false, 0) := by decide +kernel
theorem tk_1 : takesE (flat 0 tAB) [97, 98, 98] = (true, 0) := by decide +kernel
theorem tk_2 : takesE (flat 0 tAB) [98, 97] = (false, 0) := by decide +kernel
theorem pr_1 : printE tABs = ([40, 97, 98, 41, 42], 0) := by decide +kernel
theorem pr_2 : printE (.set pABCX) = ([91, 97, 45, 99, 120, 93], 0) := by decide +kernel
theorem pr_3 : printE (.set pAll) = ([91, 92, 120, 48, 48, 45, 92, 120, 102, 102, 93], 0) := by decide +kernel
theorem fl_ab : flat 0 tAB = [⟨2, 0, 0, pA⟩, ⟨2, 0, 0, pB⟩, ⟨5, 1, 0, nilS⟩, ⟨3, 0, 2, nilS⟩] := by decide +kernel
theorem jn_1 : joinE 4 [⟨2, 0, 0, pA⟩] [⟨1, 0, 0, nilS⟩] = flat 0 tA0 := by decide +kernel
theorem jn_2 : joinE 3 [⟨2, 0, 0, pA⟩] [⟨2, 0, 0, pB⟩] ++ [⟨5, 2, 0, nilS⟩] = flat 0 tABs := by decide +kernel

theorem w_of1 (w : World) : Calls Tryd.prog 32 #[.string ⟨#[97, 98, 42]⟩] w (GotX w (flat 0 tAB)) := by
  have h := law_of [97, 98, 42] (by decide) 60 (by rw [par_ab]; simp) w
  rw [par_ab] at h
  exact h
theorem w_of2 (w : World) : Calls Tryd.prog 32 #[.string ⟨#[97, 124]⟩] w (GotX w (flat 0 tA0)) := by
  have h := law_of [97, 124] (by decide) 60 (by rw [par_a0]; simp) w
  rw [par_a0] at h
  exact h
theorem w_t1 (w : World) (hT : Tab w) : Calls Tryd.prog 25 #[.string ⟨#[97, 98, 42]⟩, .string ⟨#[97, 98, 98]⟩] w (GotB w true) := by
  have h := law_takes [97, 98, 42] [97, 98, 98] (by decide) (by decide) 60 (by rw [par_ab]; simp) w hT
  rw [par_ab, show okE (ParseE [97, 98, 42] (ReadE (.ok tAB []))) = flat 0 tAB from rfl, tk_1] at h
  exact h
theorem w_t2 (w : World) (hT : Tab w) : Calls Tryd.prog 25 #[.string ⟨#[97, 98, 42]⟩, .string ⟨#[98, 97]⟩] w (GotB w false) := by
  have h := law_takes [97, 98, 42] [98, 97] (by decide) (by decide) 60 (by rw [par_ab]; simp) w hT
  rw [par_ab, show okE (ParseE [97, 98, 42] (ReadE (.ok tAB []))) = flat 0 tAB from rfl, tk_2] at h
  exact h
theorem w_f1 (w : World) : Calls Tryd.prog 34 #[.string ⟨#[40, 97]⟩, .int .i64 2] w (GotB w true) := by
  have h := law_fails [40, 97] (by decide) 2 60 (by rw [par_f1]; simp) w
  rw [par_f1] at h
  exact h
theorem w_f2 (w : World) : Calls Tryd.prog 34 #[.string ⟨#[97, 124, 42]⟩, .int .i64 2] w (GotB w true) := by
  have h := law_fails [97, 124, 42] (by decide) 2 60 (by rw [par_f2]; simp) w
  rw [par_f2] at h
  exact h
theorem w_f3 (w : World) : Calls Tryd.prog 34 #[.string ⟨#[91, 98, 45, 97, 93]⟩, .int .i64 3] w (GotB w true) := by
  have h := law_fails [91, 98, 45, 97, 93] (by decide) 3 60 (by rw [par_f3]; simp) w
  rw [par_f3] at h
  exact h
theorem w_f4 (w : World) : Calls Tryd.prog 34 #[.string ⟨#[91, 93]⟩, .int .i64 1] w (GotB w true) := by
  have h := law_fails [91, 93] (by decide) 1 60 (by rw [par_f4]; simp) w
  rw [par_f4] at h
  exact h
theorem w_p1 (A : Option Addr) (n c : Nat) (w : World) (hT : Tab w) (hn : (flat 0 tABs).length = n) (hr : RdR w A (flat 0 tABs)) (hc : n ≤ c) : Calls Tryd.prog 35 #[.agg #[.slice A n c], .string ⟨#[40, 97, 98, 41, 42]⟩] w (GotB w true) := by
  rw [flat_len] at hn
  have h := law_prints tABs A n c hn (by rw [← hn]; decide) [40, 97, 98, 41, 42] w hT hr hc
  rw [pr_1] at h
  exact h
theorem w_p2 (A : Option Addr) (n c : Nat) (w : World) (hT : Tab w) (hn : (flat 0 (.set pABCX)).length = n) (hr : RdR w A (flat 0 (.set pABCX))) (hc : n ≤ c) : Calls Tryd.prog 35 #[.agg #[.slice A n c], .string ⟨#[91, 97, 45, 99, 120, 93]⟩] w (GotB w true) := by
  rw [flat_len] at hn
  have h := law_prints (.set pABCX) A n c hn (by rw [← hn]; decide) [91, 97, 45, 99, 120, 93] w hT hr hc
  rw [pr_2] at h
  exact h
theorem w_p3 (A : Option Addr) (n c : Nat) (w : World) (hT : Tab w) (hn : (flat 0 (.set pAll)).length = n) (hr : RdR w A (flat 0 (.set pAll))) (hc : n ≤ c) : Calls Tryd.prog 35 #[.agg #[.slice A n c], .string ⟨#[91, 92, 120, 48, 48, 45, 92, 120, 102, 102, 93]⟩] w (GotB w true) := by
  rw [flat_len] at hn
  have h := law_prints (.set pAll) A n c hn (by rw [← hn]; decide) [91, 92, 120, 48, 48, 45, 92, 120, 102, 102, 93] w hT hr hc
  rw [pr_3] at h
  exact h
theorem w_nil (A : Option Addr) (n c : Nat) (w : World) (hT : Tab w) (hn : (flat 0 tAB).length = n) (hr : RdR w A (flat 0 tAB)) (hc : n ≤ c) : Calls Tryd.prog 12 #[.agg #[.slice A n c]] w (GotBE w (false, 0)) := by
  have h := nil_all (flat 0 tAB) A n c hn w hT hr hc
  rw [tk_nil] at h
  exact h
theorem w_all (w : World) : Calls Tryd.prog 36 #[.int .u8 0, .int .u8 255] w (GotS w pAll) := span_nat 0 255 (by omega) (by omega) w

end Go.Proofs.YteedmkokbapkgaaDoor
