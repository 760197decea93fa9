/- The works of Append and Sync of a journal, in turn: contracts over the translated program. No condition but that the journal and its disk lie in memory as said, and what each statement names. -/
import Derived.Test.YtdgaipdpebinbaaJoP
set_option linter.unusedVariables false
set_option linter.unusedSimpArgs false
namespace Go.Proofs.Ytdgaipdpebinbaa
open Go.RowKit Go.Maps Go.Shelf Go.Sort
section
variable {w : World} {own : Nat → Option Role} {d J cnt kp : Nat} {s : DS} {k m r : Nat}

set_option maxHeartbeats 1000000 in
theorem turnA_any {p q g : Nat} {br : Bool} {z : Nat} {S : DS} (gt : TypeId) (hG : Blk w g [.func (.func 51) #[] #[.pointer (some ⟨p, 0, none⟩), .pointer (some ⟨q, 0, none⟩)]] gt)
    (hc : Calls Try.prog 51 #[.pointer (some ⟨p, 0, none⟩), .pointer (some ⟨q, 0, none⟩)] w (GotA w own d (.int .i64 (z : Int)) S)) :
    Calls Try.prog 43 #[.slice (some ⟨g, 0, none⟩) 1 1] w (GotA w own d (.int .i64 (z : Int)) S) := by
  go_enter Try.func43, Try.ntmps43
  go_wp2_with fail
  go_loopw [8] (fun i wr => (i = .int .i64 0 ∧ wr = w) ∨ (i = .int .i64 1 ∧ z = 0 ∧ ∃ own', DiskIn wr own' d S ∧ Kept w wr own own')) (fun i _ => 1 - (intOf i).toNat)
  case atStart => exact .inl ⟨rfl, rfl⟩
  case round =>
    rcases hrel with ⟨rfl, rfl⟩ | ⟨rfl, hz, own', hD, hK⟩
    · have c0 := hG.cell 0 _ rfl
      by_cases h0 : z = 0
      · subst h0
        go_wp2_with fail
        refine hc.mono ?_
        rintro e w1 ⟨rfl, own1, hD1, hK1⟩
        go_wp2_with fail
        exact ⟨.inr ⟨by go_num, by trivial, own1, hD1, hK1⟩, by simp [intOf]⟩
      · have hne : ((z : Int) != 0) = true := by simp; omega
        clear h0
        go_wp2_with fail
        refine hc.mono ?_
        rintro e w1 ⟨rfl, own1, hD1, hK1⟩
        go_wp2_with fail
        go_ret
        exact ⟨rfl, own1, hD1, hK1⟩
    · subst hz
      go_wp2_with fail
      go_ret
      exact ⟨rfl, own', hD, hK⟩
set_option maxHeartbeats 1000000 in
theorem doesA_any {p q g : Nat} {br : Bool} {z : Nat} {S : DS} (gt : TypeId) (hG : Blk w g [.func (.func 51) #[] #[.pointer (some ⟨p, 0, none⟩), .pointer (some ⟨q, 0, none⟩)]] gt) (hJ : JIn w own J d cnt kp br)
    (hc : Calls Try.prog 51 #[.pointer (some ⟨p, 0, none⟩), .pointer (some ⟨q, 0, none⟩)] w (GotA w own d (.int .i64 (z : Int)) S)) :
    Calls Try.prog 50 #[.pointer (some ⟨J, 0, none⟩), .slice (some ⟨g, 0, none⟩) 1 1] w (fun e w' => e = .returned (.int .i64 (z : Int)) ∧ ∃ own', DiskIn w' own' d S ∧ Kept w w' (jo own J) (jo own' J) ∧ JIn w' own' J d cnt kp (decide (z ≠ 0 ∧ z ≠ 52))) := by
  have ht := turnA_any (p := p) (q := q) (br := br) gt hG hc
  clear hc
  obtain ⟨bb, hbb⟩ : ∃ bb, bb = decide (z ≠ 0 ∧ z ≠ 52) := ⟨_, rfl⟩
  rw [← hbb]
  have HBB := Lib.hid hbb
  clear hbb
  by_cases h0 : z = 0
  · subst h0
    have hb : bb = false := by rw [HBB.out]; rfl
    subst hb
    go_enter Try.func50, Try.ntmps50
    go_wp2_with fail
    refine ht.mono ?_
    rintro e w1 ⟨rfl, own1, hD1, hK1⟩
    have hJ1 := hJ.kept hK1
    have c3 := hJ1.1.cell 3 _ rfl
    have z3 := hJ1.1.free 3
    clear ht
    go_wp2_with fail
    go_ret
    have hg := grown_set w1 ⟨J, 3, none⟩ (.bool false)
    obtain ⟨bn, bk, loc, hA1⟩ := hD1
    exact ⟨rfl, own1, ⟨bn, bk, loc, hA1.grown hg fun c e => by cases e; exact hJ1.2⟩, (hK1.jo J).set (p := ⟨J, 3, none⟩) (jo_at _ _) _, hJ1.1.set 3 _, hJ1.2⟩
  · by_cases h2 : z = 52
    · subst h2
      have hb : bb = false := by rw [HBB.out]; rfl
      subst hb
      go_enter Try.func50, Try.ntmps50
      go_wp2_with fail
      refine ht.mono ?_
      rintro e w1 ⟨rfl, own1, hD1, hK1⟩
      have hJ1 := hJ.kept hK1
      have c3 := hJ1.1.cell 3 _ rfl
      have z3 := hJ1.1.free 3
      clear ht
      go_wp2_with fail
      go_ret
      have hg := grown_set w1 ⟨J, 3, none⟩ (.bool false)
      obtain ⟨bn, bk, loc, hA1⟩ := hD1
      exact ⟨rfl, own1, ⟨bn, bk, loc, hA1.grown hg fun c e => by cases e; exact hJ1.2⟩, (hK1.jo J).set (p := ⟨J, 3, none⟩) (jo_at _ _) _, hJ1.1.set 3 _, hJ1.2⟩
    · have hb : bb = true := by rw [HBB.out]; simp [h0, h2]
      subst hb
      have n1 : ((z : Int) != 0) = true := by simp; omega
      have n2 : ((z : Int) != 52) = true := by simp; omega
      clear h0 h2
      go_enter Try.func50, Try.ntmps50
      go_wp2_with fail
      refine ht.mono ?_
      rintro e w1 ⟨rfl, own1, hD1, hK1⟩
      have hJ1 := hJ.kept hK1
      have c3 := hJ1.1.cell 3 _ rfl
      have z3 := hJ1.1.free 3
      clear ht
      go_wp2_with fail
      go_ret
      have hg := grown_set w1 ⟨J, 3, none⟩ (.bool true)
      obtain ⟨bn, bk, loc, hA1⟩ := hD1
      exact ⟨rfl, own1, ⟨bn, bk, loc, hA1.grown hg fun c e => by cases e; exact hJ1.2⟩, (hK1.jo J).set (p := ⟨J, 3, none⟩) (jo_at _ _) _, hJ1.1.set 3 _, hJ1.2⟩

set_option maxHeartbeats 1000000 in
theorem turnS_any {p q g : Nat} {br : Bool} {z : Nat} {S : DS} (gt : TypeId) (hG : Blk w g [.func (.func 52) #[] #[.pointer (some ⟨p, 0, none⟩)]] gt)
    (hc : Calls Try.prog 52 #[.pointer (some ⟨p, 0, none⟩)] w (GotA w own d (.int .i64 (z : Int)) S)) :
    Calls Try.prog 43 #[.slice (some ⟨g, 0, none⟩) 1 1] w (GotA w own d (.int .i64 (z : Int)) S) := by
  go_enter Try.func43, Try.ntmps43
  go_wp2_with fail
  go_loopw [8] (fun i wr => (i = .int .i64 0 ∧ wr = w) ∨ (i = .int .i64 1 ∧ z = 0 ∧ ∃ own', DiskIn wr own' d S ∧ Kept w wr own own')) (fun i _ => 1 - (intOf i).toNat)
  case atStart => exact .inl ⟨rfl, rfl⟩
  case round =>
    rcases hrel with ⟨rfl, rfl⟩ | ⟨rfl, hz, own', hD, hK⟩
    · have c0 := hG.cell 0 _ rfl
      by_cases h0 : z = 0
      · subst h0
        go_wp2_with fail
        refine hc.mono ?_
        rintro e w1 ⟨rfl, own1, hD1, hK1⟩
        go_wp2_with fail
        exact ⟨.inr ⟨by go_num, by trivial, own1, hD1, hK1⟩, by simp [intOf]⟩
      · have hne : ((z : Int) != 0) = true := by simp; omega
        clear h0
        go_wp2_with fail
        refine hc.mono ?_
        rintro e w1 ⟨rfl, own1, hD1, hK1⟩
        go_wp2_with fail
        go_ret
        exact ⟨rfl, own1, hD1, hK1⟩
    · subst hz
      go_wp2_with fail
      go_ret
      exact ⟨rfl, own', hD, hK⟩
set_option maxHeartbeats 1000000 in
theorem doesS_any {p q g : Nat} {br : Bool} {z : Nat} {S : DS} (gt : TypeId) (hG : Blk w g [.func (.func 52) #[] #[.pointer (some ⟨p, 0, none⟩)]] gt) (hJ : JIn w own J d cnt kp br)
    (hc : Calls Try.prog 52 #[.pointer (some ⟨p, 0, none⟩)] w (GotA w own d (.int .i64 (z : Int)) S)) :
    Calls Try.prog 50 #[.pointer (some ⟨J, 0, none⟩), .slice (some ⟨g, 0, none⟩) 1 1] w (fun e w' => e = .returned (.int .i64 (z : Int)) ∧ ∃ own', DiskIn w' own' d S ∧ Kept w w' (jo own J) (jo own' J) ∧ JIn w' own' J d cnt kp (decide (z ≠ 0 ∧ z ≠ 52))) := by
  have ht := turnS_any (p := p) (q := q) (br := br) gt hG hc
  clear hc
  obtain ⟨bb, hbb⟩ : ∃ bb, bb = decide (z ≠ 0 ∧ z ≠ 52) := ⟨_, rfl⟩
  rw [← hbb]
  have HBB := Lib.hid hbb
  clear hbb
  by_cases h0 : z = 0
  · subst h0
    have hb : bb = false := by rw [HBB.out]; rfl
    subst hb
    go_enter Try.func50, Try.ntmps50
    go_wp2_with fail
    refine ht.mono ?_
    rintro e w1 ⟨rfl, own1, hD1, hK1⟩
    have hJ1 := hJ.kept hK1
    have c3 := hJ1.1.cell 3 _ rfl
    have z3 := hJ1.1.free 3
    clear ht
    go_wp2_with fail
    go_ret
    have hg := grown_set w1 ⟨J, 3, none⟩ (.bool false)
    obtain ⟨bn, bk, loc, hA1⟩ := hD1
    exact ⟨rfl, own1, ⟨bn, bk, loc, hA1.grown hg fun c e => by cases e; exact hJ1.2⟩, (hK1.jo J).set (p := ⟨J, 3, none⟩) (jo_at _ _) _, hJ1.1.set 3 _, hJ1.2⟩
  · by_cases h2 : z = 52
    · subst h2
      have hb : bb = false := by rw [HBB.out]; rfl
      subst hb
      go_enter Try.func50, Try.ntmps50
      go_wp2_with fail
      refine ht.mono ?_
      rintro e w1 ⟨rfl, own1, hD1, hK1⟩
      have hJ1 := hJ.kept hK1
      have c3 := hJ1.1.cell 3 _ rfl
      have z3 := hJ1.1.free 3
      clear ht
      go_wp2_with fail
      go_ret
      have hg := grown_set w1 ⟨J, 3, none⟩ (.bool false)
      obtain ⟨bn, bk, loc, hA1⟩ := hD1
      exact ⟨rfl, own1, ⟨bn, bk, loc, hA1.grown hg fun c e => by cases e; exact hJ1.2⟩, (hK1.jo J).set (p := ⟨J, 3, none⟩) (jo_at _ _) _, hJ1.1.set 3 _, hJ1.2⟩
    · have hb : bb = true := by rw [HBB.out]; simp [h0, h2]
      subst hb
      have n1 : ((z : Int) != 0) = true := by simp; omega
      have n2 : ((z : Int) != 52) = true := by simp; omega
      clear h0 h2
      go_enter Try.func50, Try.ntmps50
      go_wp2_with fail
      refine ht.mono ?_
      rintro e w1 ⟨rfl, own1, hD1, hK1⟩
      have hJ1 := hJ.kept hK1
      have c3 := hJ1.1.cell 3 _ rfl
      have z3 := hJ1.1.free 3
      clear ht
      go_wp2_with fail
      go_ret
      have hg := grown_set w1 ⟨J, 3, none⟩ (.bool true)
      obtain ⟨bn, bk, loc, hA1⟩ := hD1
      exact ⟨rfl, own1, ⟨bn, bk, loc, hA1.grown hg fun c e => by cases e; exact hJ1.2⟩, (hK1.jo J).set (p := ⟨J, 3, none⟩) (jo_at _ _) _, hJ1.1.set 3 _, hJ1.2⟩
end
end Go.Proofs.Ytdgaipdpebinbaa
