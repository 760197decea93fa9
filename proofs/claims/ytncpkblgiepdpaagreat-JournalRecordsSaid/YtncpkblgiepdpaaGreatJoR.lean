/- Append, Sync, Len and Kept of a journal: contracts over the translated program. No condition but that the journal and its disk lie in memory as said, and what each statement names. -/
import Derived.Test.YtncpkblgiepdpaaGreatJoO
set_option linter.unusedVariables false
set_option linter.unusedSimpArgs false
namespace Go.Proofs.YtncpkblgiepdpaaGreat
open Go.RowKit Go.Maps Go.Shelf Go.Sort

/-- The disk's blocks, and the journal's. -/
def jo (own : Nat → Option Role) (J : Nat) : Nat → Option Role := setR own J .disk
theorem jo_none {own : Nat → Option Role} {J b : Nat} (h : jo own J b = none) : own b = none ∧ b ≠ J := by
  unfold jo at h
  by_cases e : b = J
  · subst e; rw [setR_same] at h; cases h
  · rw [setR_other _ _ e] at h; exact ⟨h, e⟩
theorem jo_some {own : Nat → Option Role} {J b : Nat} (h : jo own J b ≠ none) : own b ≠ none ∨ b = J := by
  unfold jo at h
  by_cases e : b = J
  · exact .inr e
  · rw [setR_other _ _ e] at h; exact .inl h
theorem jo_at (own : Nat → Option Role) (J : Nat) : jo own J J ≠ none := by unfold jo; rw [setR_same]; simp
theorem jo_of {own : Nat → Option Role} {J b : Nat} (h : own b = none) (hb : b ≠ J) : jo own J b = none := by unfold jo; rw [setR_other _ _ hb]; exact h
theorem Kept.jo {w w' : World} {own own' : Nat → Option Role} (h : Kept w w' own own') (J : Nat) : Kept w w' (jo own J) (jo own' J) :=
  ⟨h.os, h.tape, h.output, h.size, fun b hb hn => h.block b hb (jo_none hn).1, fun b hb => by
    rcases jo_some hb with h1 | h1
    · rcases h.more b h1 with h2 | h2
      · left
        by_cases e : b = J
        · subst e; exact jo_at _ _
        · unfold Go.Proofs.YtncpkblgiepdpaaGreat.jo; rw [setR_other _ _ e]; exact h2
      · exact .inr h2
    · subst h1; exact .inl (jo_at _ _)⟩
section
variable {w : World} {own : Nat → Option Role} {d J cnt kp : Nat} {s : DS} {k m r : Nat}
theorem jnone_any {br : Bool} (hJ : JIn w own J d cnt kp br) : Calls Tryz.prog 114 #[.pointer (some ⟨J, 0, none⟩)] w (GotV w (.bool false)) := by
  have c0 := hJ.1.cell 0 _ rfl
  go_enter Tryz.func114, Tryz.ntmps114
  go_wp2_with fail
  go_ret
  exact ⟨rfl, rfl⟩
theorem jrefusal_any (hJ : JIn w own J d cnt kp false) : Calls Tryz.prog 99 #[.pointer (some ⟨J, 0, none⟩)] w (GotV w (.int .i64 0)) := by
  have c3 := hJ.1.cell 3 _ rfl
  have hq := jnone_any hJ
  go_enter Tryz.func99, Tryz.ntmps99
  go_wp2_with ((with_reducible refine hq.mono ?_); rintro e w ⟨rfl, rfl⟩)
  go_ret
  exact ⟨rfl, rfl⟩
theorem len_any (hJ : JIn w own J d cnt kp false) : Calls Tryz.prog 56 #[.pointer (some ⟨J, 0, none⟩)] w (GotV w (.int .i64 (cnt : Int))) := by
  have c1 := hJ.1.cell 1 _ rfl
  have hq := jrefusal_any hJ
  go_enter Tryz.func56, Tryz.ntmps56
  go_wp2_with ((with_reducible refine hq.mono ?_); rintro e w ⟨rfl, rfl⟩)
  go_ret
  exact ⟨rfl, rfl⟩
theorem kept_any (hJ : JIn w own J d cnt kp false) : Calls Tryz.prog 57 #[.pointer (some ⟨J, 0, none⟩)] w (GotV w (.int .i64 (kp : Int))) := by
  have c1 := hJ.1.cell 2 _ rfl
  have hq := jrefusal_any hJ
  go_enter Tryz.func57, Tryz.ntmps57
  go_wp2_with ((with_reducible refine hq.mono ?_); rintro e w ⟨rfl, rfl⟩)
  go_ret
  exact ⟨rfl, rfl⟩

/-- A call of a disk's method, by a work: the variables that it shares lie as they did. -/
def VarAt (w : World) (own : Nat → Option Role) (p : Nat) (v : Value) (T : TypeId) : Prop := Blk w p [v] T ∧ own p = none
theorem VarAt.kept {w w' : World} {own own' : Nat → Option Role} {p : Nat} {v : Value} {T : TypeId} (h : VarAt w own p v T) (hK : Kept w w' own own') : VarAt w' own' p v T := ⟨h.1.same (hK.block p h.1.lt h.2), free_kept hK h.1.lt h.2⟩
set_option maxHeartbeats 1000000 in
theorem append1_any {p q : Nat} {br : Bool} (hp : VarAt w own p (.pointer (some ⟨J, 0, none⟩)) 43) (hJ : JIn w own J d cnt kp br) {A : Option Addr} {n c : Nat} {b : BS} (hq : VarAt w own q (.slice A n c) 22) (hl : b.length = n) (hr : Rd w A b) (hO : 0 < b.length → ∀ p, A = some p → own p.block = none) (hn : n ≤ 1000000)
    (hD : DiskIn w own d s) (hR : Run s k m r) (hk : k ≤ 1000) (hm : m ≤ 1000000) (hr16 : r ≤ 16777216) :
    Calls Tryz.prog 101 #[.pointer (some ⟨p, 0, none⟩), .pointer (some ⟨q, 0, none⟩)] w (GotA w own d (.int .i64 ((dE s ⟨0, jn, [], b⟩).2 : Nat)) (dE s ⟨0, jn, [], b⟩).1) := by
  have c0 := hp.1.cell 0 _ rfl
  have c1 := hJ.1.cell 0 _ rfl
  have c2 := hq.1.cell 0 _ rfl
  have hd : Below w.heap.size w w.drew := Below.drew (Below.refl _ _)
  have happ : Calls Tryz.prog 40 #[.pointer (some ⟨d, 0, none⟩), .string ⟨#[106, 111, 117, 114, 110, 97, 108]⟩, .slice A n c] w.drew (GotA w.drew own d (.int .i64 ((dE s ⟨0, jn, [], b⟩).2 : Nat)) (dE s ⟨0, jn, [], b⟩).1) := by
    obtain ⟨bn, bk, loc, hA⟩ := hD
    exact append_any (hA.below hd) (good_of hR.inv (hR.bnd.mono hk hm)) hR.live ⟨#[106, 111, 117, 114, 110, 97, 108]⟩ rfl A n c b hl (hr.below hd) hO (by omega) (by rw [hR.room]; exact hr16)
  clear hl hr hO
  go_enter Tryz.func101, Tryz.ntmps101
  go_wp2_with fail
  go_region_law (go_simp; go_at_call 40; refine happ.mono ?_; rintro e w1 ⟨rfl, own1, hD1, hK1⟩)
  all_goals
    go_wp2_with fail
    go_ret
    exact ⟨rfl, own1, hD1, (Kept.of_below hd own).trans hK1⟩
set_option maxHeartbeats 1000000 in
theorem sync1_any {p : Nat} {br : Bool} (hp : VarAt w own p (.pointer (some ⟨J, 0, none⟩)) 43) (hJ : JIn w own J d cnt kp br)
    (hD : DiskIn w own d s) (hR : Run s k m r) (hk : k ≤ 1000) (hm : m ≤ 1000000) :
    Calls Tryz.prog 103 #[.pointer (some ⟨p, 0, none⟩)] w (GotA w own d (.int .i64 ((dE s ⟨1, jn, [], []⟩).2 : Nat)) (dE s ⟨1, jn, [], []⟩).1) := by
  have c0 := hp.1.cell 0 _ rfl
  have c1 := hJ.1.cell 0 _ rfl
  have hq : Calls Tryz.prog 65 #[.pointer (some ⟨d, 0, none⟩), .string ⟨#[106, 111, 117, 114, 110, 97, 108]⟩] w (GotA w own d (.int .i64 ((dE s ⟨1, jn, [], []⟩).2 : Nat)) (dE s ⟨1, jn, [], []⟩).1) := by
    obtain ⟨bn, bk, loc, hA⟩ := hD
    exact sync_any hA (good_of hR.inv (hR.bnd.mono hk hm)) hR.live ⟨#[106, 111, 117, 114, 110, 97, 108]⟩ (by unfold maxLen; decide)
  go_enter Tryz.func103, Tryz.ntmps103
  go_wp2_with fail
  refine hq.mono ?_
  rintro e w1 ⟨rfl, own1, hD1, hK1⟩
  go_wp2_with fail
  go_ret
  exact ⟨rfl, own1, hD1, hK1⟩
end
open Go.RowKit Go.Maps Go.Shelf Go.Sort
section
variable {w : World} {own : Nat → Option Role} {d J cnt kp : Nat} {s : DS} {k m r : Nat}

set_option maxHeartbeats 1000000 in
theorem turnA_any {p q g : Nat} {br : Bool} {z : Nat} {S : DS} (gt : TypeId) (hG : Blk w g [.func (.func 101) #[] #[.pointer (some ⟨p, 0, none⟩), .pointer (some ⟨q, 0, none⟩)]] gt)
    (hc : Calls Tryz.prog 101 #[.pointer (some ⟨p, 0, none⟩), .pointer (some ⟨q, 0, none⟩)] w (GotA w own d (.int .i64 (z : Int)) S)) :
    Calls Tryz.prog 59 #[.slice (some ⟨g, 0, none⟩) 1 1] w (GotA w own d (.int .i64 (z : Int)) S) := by
  go_enter Tryz.func59, Tryz.ntmps59
  go_wp2_with fail
  go_loopw [8] (fun i wr => (i = .int .i64 0 ∧ wr = w) ∨ (i = .int .i64 1 ∧ z = 0 ∧ ∃ own', DiskIn wr own' d S ∧ Kept w wr own own')) (fun i _ => 1 - (intOf i).toNat)
  case atStart => exact .inl ⟨rfl, rfl⟩
  case round =>
    rcases hrel with ⟨rfl, rfl⟩ | ⟨rfl, hz, own', hD, hK⟩
    · have c0 := hG.cell 0 _ rfl
      by_cases h0 : z = 0
      · subst h0
        go_wp2_with fail
        refine hc.mono ?_
        rintro e w1 ⟨rfl, own1, hD1, hK1⟩
        go_wp2_with fail
        exact ⟨.inr ⟨by go_num, by trivial, own1, hD1, hK1⟩, by simp [intOf]⟩
      · have hne : ((z : Int) != 0) = true := by simp; omega
        clear h0
        go_wp2_with fail
        refine hc.mono ?_
        rintro e w1 ⟨rfl, own1, hD1, hK1⟩
        go_wp2_with fail
        go_ret
        exact ⟨rfl, own1, hD1, hK1⟩
    · subst hz
      go_wp2_with fail
      go_ret
      exact ⟨rfl, own', hD, hK⟩
set_option maxHeartbeats 1000000 in
theorem doesA_any {p q g : Nat} {br : Bool} {z : Nat} {S : DS} (gt : TypeId) (hG : Blk w g [.func (.func 101) #[] #[.pointer (some ⟨p, 0, none⟩), .pointer (some ⟨q, 0, none⟩)]] gt) (hJ : JIn w own J d cnt kp br)
    (hc : Calls Tryz.prog 101 #[.pointer (some ⟨p, 0, none⟩), .pointer (some ⟨q, 0, none⟩)] w (GotA w own d (.int .i64 (z : Int)) S)) :
    Calls Tryz.prog 100 #[.pointer (some ⟨J, 0, none⟩), .slice (some ⟨g, 0, none⟩) 1 1] w (fun e w' => e = .returned (.int .i64 (z : Int)) ∧ ∃ own', DiskIn w' own' d S ∧ Kept w w' (jo own J) (jo own' J) ∧ JIn w' own' J d cnt kp (decide (z ≠ 0 ∧ z ≠ 52))) := by
  have ht := turnA_any (p := p) (q := q) (br := br) gt hG hc
  clear hc
  obtain ⟨bb, hbb⟩ : ∃ bb, bb = decide (z ≠ 0 ∧ z ≠ 52) := ⟨_, rfl⟩
  rw [← hbb]
  have HBB := Lib.hid hbb
  clear hbb
  by_cases h0 : z = 0
  · subst h0
    have hb : bb = false := by rw [HBB.out]; rfl
    subst hb
    go_enter Tryz.func100, Tryz.ntmps100
    go_wp2_with fail
    refine ht.mono ?_
    rintro e w1 ⟨rfl, own1, hD1, hK1⟩
    have hJ1 := hJ.kept hK1
    have c3 := hJ1.1.cell 3 _ rfl
    have z3 := hJ1.1.free 3
    clear ht
    go_wp2_with fail
    go_ret
    have hg := grown_set w1 ⟨J, 3, none⟩ (.bool false)
    obtain ⟨bn, bk, loc, hA1⟩ := hD1
    exact ⟨rfl, own1, ⟨bn, bk, loc, hA1.grown hg fun c e => by cases e; exact hJ1.2⟩, (hK1.jo J).set (p := ⟨J, 3, none⟩) (jo_at _ _) _, hJ1.1.set 3 _, hJ1.2⟩
  · by_cases h2 : z = 52
    · subst h2
      have hb : bb = false := by rw [HBB.out]; rfl
      subst hb
      go_enter Tryz.func100, Tryz.ntmps100
      go_wp2_with fail
      refine ht.mono ?_
      rintro e w1 ⟨rfl, own1, hD1, hK1⟩
      have hJ1 := hJ.kept hK1
      have c3 := hJ1.1.cell 3 _ rfl
      have z3 := hJ1.1.free 3
      clear ht
      go_wp2_with fail
      go_ret
      have hg := grown_set w1 ⟨J, 3, none⟩ (.bool false)
      obtain ⟨bn, bk, loc, hA1⟩ := hD1
      exact ⟨rfl, own1, ⟨bn, bk, loc, hA1.grown hg fun c e => by cases e; exact hJ1.2⟩, (hK1.jo J).set (p := ⟨J, 3, none⟩) (jo_at _ _) _, hJ1.1.set 3 _, hJ1.2⟩
    · have hb : bb = true := by rw [HBB.out]; simp [h0, h2]
      subst hb
      have n1 : ((z : Int) != 0) = true := by simp; omega
      have n2 : ((z : Int) != 52) = true := by simp; omega
      clear h0 h2
      go_enter Tryz.func100, Tryz.ntmps100
      go_wp2_with fail
      refine ht.mono ?_
      rintro e w1 ⟨rfl, own1, hD1, hK1⟩
      have hJ1 := hJ.kept hK1
      have c3 := hJ1.1.cell 3 _ rfl
      have z3 := hJ1.1.free 3
      clear ht
      go_wp2_with fail
      go_ret
      have hg := grown_set w1 ⟨J, 3, none⟩ (.bool true)
      obtain ⟨bn, bk, loc, hA1⟩ := hD1
      exact ⟨rfl, own1, ⟨bn, bk, loc, hA1.grown hg fun c e => by cases e; exact hJ1.2⟩, (hK1.jo J).set (p := ⟨J, 3, none⟩) (jo_at _ _) _, hJ1.1.set 3 _, hJ1.2⟩

set_option maxHeartbeats 1000000 in
theorem turnS_any {p q g : Nat} {br : Bool} {z : Nat} {S : DS} (gt : TypeId) (hG : Blk w g [.func (.func 103) #[] #[.pointer (some ⟨p, 0, none⟩)]] gt)
    (hc : Calls Tryz.prog 103 #[.pointer (some ⟨p, 0, none⟩)] w (GotA w own d (.int .i64 (z : Int)) S)) :
    Calls Tryz.prog 59 #[.slice (some ⟨g, 0, none⟩) 1 1] w (GotA w own d (.int .i64 (z : Int)) S) := by
  go_enter Tryz.func59, Tryz.ntmps59
  go_wp2_with fail
  go_loopw [8] (fun i wr => (i = .int .i64 0 ∧ wr = w) ∨ (i = .int .i64 1 ∧ z = 0 ∧ ∃ own', DiskIn wr own' d S ∧ Kept w wr own own')) (fun i _ => 1 - (intOf i).toNat)
  case atStart => exact .inl ⟨rfl, rfl⟩
  case round =>
    rcases hrel with ⟨rfl, rfl⟩ | ⟨rfl, hz, own', hD, hK⟩
    · have c0 := hG.cell 0 _ rfl
      by_cases h0 : z = 0
      · subst h0
        go_wp2_with fail
        refine hc.mono ?_
        rintro e w1 ⟨rfl, own1, hD1, hK1⟩
        go_wp2_with fail
        exact ⟨.inr ⟨by go_num, by trivial, own1, hD1, hK1⟩, by simp [intOf]⟩
      · have hne : ((z : Int) != 0) = true := by simp; omega
        clear h0
        go_wp2_with fail
        refine hc.mono ?_
        rintro e w1 ⟨rfl, own1, hD1, hK1⟩
        go_wp2_with fail
        go_ret
        exact ⟨rfl, own1, hD1, hK1⟩
    · subst hz
      go_wp2_with fail
      go_ret
      exact ⟨rfl, own', hD, hK⟩
set_option maxHeartbeats 1000000 in
theorem doesS_any {p q g : Nat} {br : Bool} {z : Nat} {S : DS} (gt : TypeId) (hG : Blk w g [.func (.func 103) #[] #[.pointer (some ⟨p, 0, none⟩)]] gt) (hJ : JIn w own J d cnt kp br)
    (hc : Calls Tryz.prog 103 #[.pointer (some ⟨p, 0, none⟩)] w (GotA w own d (.int .i64 (z : Int)) S)) :
    Calls Tryz.prog 100 #[.pointer (some ⟨J, 0, none⟩), .slice (some ⟨g, 0, none⟩) 1 1] w (fun e w' => e = .returned (.int .i64 (z : Int)) ∧ ∃ own', DiskIn w' own' d S ∧ Kept w w' (jo own J) (jo own' J) ∧ JIn w' own' J d cnt kp (decide (z ≠ 0 ∧ z ≠ 52))) := by
  have ht := turnS_any (p := p) (q := q) (br := br) gt hG hc
  clear hc
  obtain ⟨bb, hbb⟩ : ∃ bb, bb = decide (z ≠ 0 ∧ z ≠ 52) := ⟨_, rfl⟩
  rw [← hbb]
  have HBB := Lib.hid hbb
  clear hbb
  by_cases h0 : z = 0
  · subst h0
    have hb : bb = false := by rw [HBB.out]; rfl
    subst hb
    go_enter Tryz.func100, Tryz.ntmps100
    go_wp2_with fail
    refine ht.mono ?_
    rintro e w1 ⟨rfl, own1, hD1, hK1⟩
    have hJ1 := hJ.kept hK1
    have c3 := hJ1.1.cell 3 _ rfl
    have z3 := hJ1.1.free 3
    clear ht
    go_wp2_with fail
    go_ret
    have hg := grown_set w1 ⟨J, 3, none⟩ (.bool false)
    obtain ⟨bn, bk, loc, hA1⟩ := hD1
    exact ⟨rfl, own1, ⟨bn, bk, loc, hA1.grown hg fun c e => by cases e; exact hJ1.2⟩, (hK1.jo J).set (p := ⟨J, 3, none⟩) (jo_at _ _) _, hJ1.1.set 3 _, hJ1.2⟩
  · by_cases h2 : z = 52
    · subst h2
      have hb : bb = false := by rw [HBB.out]; rfl
      subst hb
      go_enter Tryz.func100, Tryz.ntmps100
      go_wp2_with fail
      refine ht.mono ?_
      rintro e w1 ⟨rfl, own1, hD1, hK1⟩
      have hJ1 := hJ.kept hK1
      have c3 := hJ1.1.cell 3 _ rfl
      have z3 := hJ1.1.free 3
      clear ht
      go_wp2_with fail
      go_ret
      have hg := grown_set w1 ⟨J, 3, none⟩ (.bool false)
      obtain ⟨bn, bk, loc, hA1⟩ := hD1
      exact ⟨rfl, own1, ⟨bn, bk, loc, hA1.grown hg fun c e => by cases e; exact hJ1.2⟩, (hK1.jo J).set (p := ⟨J, 3, none⟩) (jo_at _ _) _, hJ1.1.set 3 _, hJ1.2⟩
    · have hb : bb = true := by rw [HBB.out]; simp [h0, h2]
      subst hb
      have n1 : ((z : Int) != 0) = true := by simp; omega
      have n2 : ((z : Int) != 52) = true := by simp; omega
      clear h0 h2
      go_enter Tryz.func100, Tryz.ntmps100
      go_wp2_with fail
      refine ht.mono ?_
      rintro e w1 ⟨rfl, own1, hD1, hK1⟩
      have hJ1 := hJ.kept hK1
      have c3 := hJ1.1.cell 3 _ rfl
      have z3 := hJ1.1.free 3
      clear ht
      go_wp2_with fail
      go_ret
      have hg := grown_set w1 ⟨J, 3, none⟩ (.bool true)
      obtain ⟨bn, bk, loc, hA1⟩ := hD1
      exact ⟨rfl, own1, ⟨bn, bk, loc, hA1.grown hg fun c e => by cases e; exact hJ1.2⟩, (hK1.jo J).set (p := ⟨J, 3, none⟩) (jo_at _ _) _, hJ1.1.set 3 _, hJ1.2⟩
end
open Go.RowKit Go.Maps Go.Shelf Go.Sort
section
variable {w : World} {own : Nat → Option Role} {d J cnt kp : Nat} {s : DS} {k m r : Nat}
theorem DiskIn.below {w w' : World} {own : Nat → Option Role} {d : Nat} {s : DS} (h : DiskIn w own d s) (hb : Below w.heap.size w w') : DiskIn w' own d s := by
  obtain ⟨bn, bk, loc, hA⟩ := h
  exact ⟨bn, bk, loc, hA.below hb⟩
/-- What a call of a journal leaves. -/
def GotJ (w : World) (own : Nat → Option Role) (J d : Nat) (v : Value) (S : DS) (cnt kp : Nat) (e : Ending) (w' : World) : Prop :=
  e = .returned v ∧ ∃ own', DiskIn w' own' d S ∧ Kept w w' (jo own J) (jo own' J) ∧ JIn w' own' J d cnt kp false
theorem app_err (s : DS) (b : BS) : (dE s ⟨0, jn, [], b⟩).2 = 0 ∨ (dE s ⟨0, jn, [], b⟩).2 = 52 := by
  simp only [dE]
  split
  · exact .inl rfl
  · exact .inr rfl
set_option maxHeartbeats 4000000 in
set_option maxRecDepth 40000 in
theorem jappend_any (hJ : JIn w own J d cnt kp false) (hD : DiskIn w own d s) (hR : Run s k m r) (hk : k ≤ 1000) (hm : m ≤ 1000000) (hr16 : r ≤ 16777216) (A : Option Addr) (n c : Nat) (b : BS) (hl : b.length = n) (hr : Rd w A b) (hn : n ≤ 262144) (hc : cnt < 9007199254740991) :
    Calls Tryz.prog 45 #[.pointer (some ⟨J, 0, none⟩), .slice A n c] w (GotJ w own J d (.int .i64 ((dE s ⟨0, jn, [], recE (cnt + 1) b⟩).2 : Nat)) (dE s ⟨0, jn, [], recE (cnt + 1) b⟩).1 (if (dE s ⟨0, jn, [], recE (cnt + 1) b⟩).2 = 0 then cnt + 1 else cnt) kp) := by
  have hmf : ∀ (fn : Fn) (first cap : Array Value) (w : World), (Instr.makeFunc fn first cap).run Tryz.prog w = .ok (.func fn first cap) w := fun _ _ _ _ => rfl
  have HJ := Lib.hid hJ
  have HD := Lib.hid hD
  have HL := Lib.hid hl
  have jlt := hJ.1.lt
  have c1 := hJ.1.cell 1 _ rfl
  have hne : J ≠ w.heap.size := by omega
  have hN : ∀ j, w.heap.size ≤ j → own j = none := fun j hj => own_new hD hj
  have hb0 : Below w.heap.size w (w.alloc (.cells #[.pointer (some ⟨J, 0, none⟩)] 43)) := (Below.refl _ _).alloc (Nat.le_refl _) _
  have hrf := jrefusal_any (hJ.kept (Kept.of_below hb0 own))
  obtain ⟨z, hz⟩ : ∃ z, z = (dE s ⟨0, jn, [], recE (cnt + 1) b⟩).2 := ⟨_, rfl⟩
  obtain ⟨S, hS⟩ : ∃ S, S = (dE s ⟨0, jn, [], recE (cnt + 1) b⟩).1 := ⟨_, rfl⟩
  have hz2 := app_err s (recE (cnt + 1) b)
  rw [← hz] at hz2
  rw [← hz, ← hS]
  have HZ := Lib.hid hz
  have HS := Lib.hid hS
  clear hJ hD hl hz hS
  have key : ∀ cnt', cnt' = (if z = 0 then cnt + 1 else cnt) → Calls Tryz.prog 45 #[.pointer (some ⟨J, 0, none⟩), .slice A n c] w (GotJ w own J d (.int .i64 (z : Int)) S cnt' kp) := by
    intro cnt' hcnt
    have HC := Lib.hid hcnt
    clear hcnt
    go_enter Tryz.func45, Tryz.ntmps45
    go_wp2_with fail
    refine hrf.mono ?_
    rintro e w1 ⟨rfl, rfl⟩
    clear hrf
    go_wp2_with fail
    have hrc := record_any (cnt + 1) A n c b (w.alloc (.cells #[.pointer (some ⟨J, 0, none⟩)] 43)) (by omega) (by omega) HL.out (hr.below hb0) hn
    have e1 : (((cnt + 1 : Nat)) : Int) = (cnt : Int) + 1 := by omega
    rw [e1] at hrc
    refine hrc.mono ?_
    rintro e w2 ⟨v2, rfl, ho2, hb2⟩
    obtain ⟨A2, c2, rfl, _, _, hr2⟩ := ho2.shape
    have hplt : w.heap.size < w2.heap.size := by have := hb2.size; simp at this; omega
    have hbw2 := bl_trans hb0 hb2
    have hp2 : Blk w2 w.heap.size [.pointer (some ⟨J, 0, none⟩)] 43 := Blk.same (heap_alloc_new w _) (hb2.block _ (by simp))
    have cp := hp2.cell 0 _ rfl
    obtain ⟨X, hX⟩ : ∃ X, X = ((w2.alloc (.cells #[.slice A2 (recE (cnt + 1) b).length c2] 22)).alloc (.cells #[.func (.func 101) #[] #[.pointer (some ⟨w.heap.size, 0, none⟩), .pointer (some ⟨w2.heap.size, 0, none⟩)]] 93)) := ⟨_, rfl⟩
    have hbX : Below w2.heap.size w2 X := by rw [hX]; exact bl_alloc (bl_alloc (Below.refl _ _) _) _
    have hbwX := bl_trans hbw2 hbX
    have HX := Lib.hid hX
    have hJX := HJ.out.kept (Kept.of_below hbwX own)
    have hDX := HD.out.below hbwX
    have hpX : VarAt X own w.heap.size (.pointer (some ⟨J, 0, none⟩)) 43 := ⟨hp2.same (hbX.block _ hplt), hN _ (Nat.le_refl _)⟩
    have hqX : VarAt X own w2.heap.size (.slice A2 (recE (cnt + 1) b).length c2) 22 := ⟨by
      rw [hX]
      exact Blk.same (heap_alloc_new w2 _) (Below.heap_alloc _ _ _ (by simp)), hN _ (by omega)⟩
    have hgX : Blk X (w2.heap.size + 1) [.func (.func 101) #[] #[.pointer (some ⟨w.heap.size, 0, none⟩), .pointer (some ⟨w2.heap.size, 0, none⟩)]] 93 := by
      rw [hX]
      exact alls_at w2 [.cells #[.slice A2 (recE (cnt + 1) b).length c2] 22, .cells #[.func (.func 101) #[] #[.pointer (some ⟨w.heap.size, 0, none⟩), .pointer (some ⟨w2.heap.size, 0, none⟩)]] 93] 1 (by simp)
    have hfr : 0 < (recE (cnt + 1) b).length → ∀ p, A2 = some p → own p.block = none := fun h0 p hp => by
      have h1 := ho2.lt p.block (by rw [hp]; rfl)
      simp at h1
      exact hN _ (by omega)
    have hclo := append1_any (cnt := cnt) (kp := kp) hpX hJX hqX rfl (hr2.below hbX) hfr (by rw [rec_len, HL.out]; omega) hDX hR hk hm hr16
    rw [← HZ.out, ← HS.out] at hclo
    have hdo := doesA_any _ hgX hJX hclo
    rw [HX.out] at hdo
    have hfalse : decide (z ≠ 0 ∧ z ≠ 52) = false := by
      rcases hz2 with h | h
      · subst h; rfl
      · subst h; rfl
    rw [hfalse] at hdo
    have HK := Lib.hid (Kept.jo (Kept.of_below hbwX own) J)
    have jlt2 : J < w2.heap.size := by omega
    have HPX := Lib.hid hpX
    clear hrc ho2 hr2 hX hbX hbwX hJX hDX hpX hqX hgX hfr hclo hfalse hp2 hb2 hbw2
    have HDO := Lib.hid hdo
    clear hdo
    rcases hz2 with rfl | rfl
    · have hc' : cnt' = cnt + 1 := by rw [HC.out, if_pos rfl]
      subst hc'
      go_wp2_with fail
      refine HDO.out.mono ?_
      rintro e w5 ⟨rfl, own5, hD5, hK5, hJ5⟩
      rw [← HX.out] at hK5
      have h9 := HPX.out.1.same (hK5.block _ HPX.out.1.lt (jo_of HPX.out.2 (by omega)))
      have c9 := h9.cell 0 _ rfl
      have c10 := hJ5.1.cell 1 _ rfl
      have z10 := hJ5.1.free 1
      have HJ5 := Lib.hid hJ5
      have HD5 := Lib.hid hD5
      have HK5 := Lib.hid hK5
      clear hJ5 hD5 hK5
      go_wp2_with fail
      go_ret
      have hg := grown_set w5 ⟨J, 1, none⟩ (.int .i64 ((cnt : Int) + 1))
      obtain ⟨bn, bk, loc, hA5⟩ := HD5.out
      exact ⟨rfl, own5, ⟨bn, bk, loc, hA5.grown hg fun c e => by cases e; exact HJ5.out.2⟩, (HK.out.trans HK5.out).set (p := ⟨J, 1, none⟩) (jo_at _ _) _, HJ5.out.1.set 1 _, HJ5.out.2⟩
    · have hc' : cnt' = cnt := by rw [HC.out, if_neg (by omega)]
      subst hc'
      go_wp2_with fail
      refine HDO.out.mono ?_
      rintro e w5 ⟨rfl, own5, hD5, hK5, hJ5⟩
      go_wp2_with fail
      go_ret
      rw [← HX.out] at hK5
      exact ⟨rfl, own5, hD5, HK.out.trans hK5, hJ5⟩
  exact key _ rfl
set_option maxHeartbeats 4000000 in
set_option maxRecDepth 40000 in
theorem jsync_any (hJ : JIn w own J d cnt kp false) (hD : DiskIn w own d s) (hR : Run s k m r) (hk : k ≤ 1000) (hm : m ≤ 1000000) (hz : (dE s ⟨1, jn, [], []⟩).2 = 0) :
    Calls Tryz.prog 47 #[.pointer (some ⟨J, 0, none⟩)] w (GotJ w own J d (.int .i64 0) (dE s ⟨1, jn, [], []⟩).1 cnt cnt) := by
  have hmf : ∀ (fn : Fn) (first cap : Array Value) (w : World), (Instr.makeFunc fn first cap).run Tryz.prog w = .ok (.func fn first cap) w := fun _ _ _ _ => rfl
  have HJ := Lib.hid hJ
  have HD := Lib.hid hD
  have jlt := hJ.1.lt
  have hne : J ≠ w.heap.size := by omega
  have hN : ∀ j, w.heap.size ≤ j → own j = none := fun j hj => own_new hD hj
  have hb0 : Below w.heap.size w (w.alloc (.cells #[.pointer (some ⟨J, 0, none⟩)] 43)) := (Below.refl _ _).alloc (Nat.le_refl _) _
  have hrf := jrefusal_any (hJ.kept (Kept.of_below hb0 own))
  obtain ⟨S, hS⟩ : ∃ S, S = (dE s ⟨1, jn, [], []⟩).1 := ⟨_, rfl⟩
  rw [← hS]
  have HS := Lib.hid hS
  have HZ := Lib.hid hz
  clear hJ hD hS hz
  obtain ⟨X, hX⟩ : ∃ X, X = ((w.alloc (.cells #[.pointer (some ⟨J, 0, none⟩)] 43)).alloc (.cells #[.func (.func 103) #[] #[.pointer (some ⟨w.heap.size, 0, none⟩)]] 93)) := ⟨_, rfl⟩
  have hbX : Below w.heap.size w X := by rw [hX]; exact bl_alloc hb0 _
  have HX := Lib.hid hX
  have hJX := HJ.out.kept (Kept.of_below hbX own)
  have hDX := HD.out.below hbX
  have hpX : VarAt X own w.heap.size (.pointer (some ⟨J, 0, none⟩)) 43 := ⟨by
    rw [hX]
    exact alls_at w [.cells #[.pointer (some ⟨J, 0, none⟩)] 43, .cells #[.func (.func 103) #[] #[.pointer (some ⟨w.heap.size, 0, none⟩)]] 93] 0 (by simp), hN _ (Nat.le_refl _)⟩
  have hgX : Blk X (w.heap.size + 1) [.func (.func 103) #[] #[.pointer (some ⟨w.heap.size, 0, none⟩)]] 93 := by
    rw [hX]
    exact alls_at w [.cells #[.pointer (some ⟨J, 0, none⟩)] 43, .cells #[.func (.func 103) #[] #[.pointer (some ⟨w.heap.size, 0, none⟩)]] 93] 1 (by simp)
  have hclo := sync1_any (cnt := cnt) (kp := kp) hpX hJX hDX hR hk hm
  rw [HZ.out, ← HS.out] at hclo
  have hdo := doesS_any (q := 0) _ hgX hJX hclo
  rw [HX.out] at hdo
  have hfalse : decide ((0 : Nat) ≠ 0 ∧ (0 : Nat) ≠ 52) = false := rfl
  rw [hfalse] at hdo
  have HK := Lib.hid (Kept.jo (Kept.of_below hbX own) J)
  have HPX := Lib.hid hpX
  have HDO := Lib.hid hdo
  clear hX hbX hJX hDX hpX hgX hclo hfalse hdo
  go_enter Tryz.func47, Tryz.ntmps47
  go_wp2_with fail
  refine hrf.mono ?_
  rintro e w1 ⟨rfl, rfl⟩
  clear hrf
  go_wp2_with fail
  refine HDO.out.mono ?_
  rintro e w5 ⟨rfl, own5, hD5, hK5, hJ5⟩
  rw [← HX.out] at hK5
  have h9 := HPX.out.1.same (hK5.block _ HPX.out.1.lt (jo_of HPX.out.2 (by omega)))
  have c9 := h9.cell 0 _ rfl
  have c10 := hJ5.1.cell 1 _ rfl
  have c11 := hJ5.1.cell 2 _ rfl
  have z10 := hJ5.1.free 2
  have HJ5 := Lib.hid hJ5
  have HD5 := Lib.hid hD5
  have HK5 := Lib.hid hK5
  clear hJ5 hD5 hK5
  go_wp2_with fail
  go_region
  go_wp2_with fail
  go_ret
  have hg := grown_set w5 ⟨J, 2, none⟩ (.int .i64 (cnt : Int))
  obtain ⟨bn, bk, loc, hA5⟩ := HD5.out
  exact ⟨rfl, own5, ⟨bn, bk, loc, (hA5.grown hg fun c e => by cases e; exact HJ5.out.2).drew⟩, ((HK.out.trans HK5.out).set (p := ⟨J, 2, none⟩) (jo_at _ _) _).drew, HJ5.out.1.set 2 _, HJ5.out.2⟩
end
end Go.Proofs.YtncpkblgiepdpaaGreat
