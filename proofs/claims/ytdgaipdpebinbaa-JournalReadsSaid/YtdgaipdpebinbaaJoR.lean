/- Append and Sync of a journal: contracts over the translated program. No condition but that the journal and its disk lie in memory as said, and what each statement names. -/
import Derived.Test.YtdgaipdpebinbaaJoQ
set_option linter.unusedVariables false
set_option linter.unusedSimpArgs false
namespace Go.Proofs.Ytdgaipdpebinbaa
open Go.RowKit Go.Maps Go.Shelf Go.Sort
section
variable {w : World} {own : Nat → Option Role} {d J cnt kp : Nat} {s : DS} {k m r : Nat}
theorem DiskIn.below {w w' : World} {own : Nat → Option Role} {d : Nat} {s : DS} (h : DiskIn w own d s) (hb : Below w.heap.size w w') : DiskIn w' own d s := by
  obtain ⟨bn, bk, loc, hA⟩ := h
  exact ⟨bn, bk, loc, hA.below hb⟩
/-- What a call of a journal leaves. -/
def GotJ (w : World) (own : Nat → Option Role) (J d : Nat) (v : Value) (S : DS) (cnt kp : Nat) (e : Ending) (w' : World) : Prop :=
  e = .returned v ∧ ∃ own', DiskIn w' own' d S ∧ Kept w w' (jo own J) (jo own' J) ∧ JIn w' own' J d cnt kp false
theorem app_err (s : DS) (b : BS) : (dE s ⟨0, jn, [], b⟩).2 = 0 ∨ (dE s ⟨0, jn, [], b⟩).2 = 52 := by
  simp only [dE]
  split
  · exact .inl rfl
  · exact .inr rfl
set_option maxHeartbeats 4000000 in
set_option maxRecDepth 40000 in
theorem jappend_any (hJ : JIn w own J d cnt kp false) (hD : DiskIn w own d s) (hR : Run s k m r) (hk : k ≤ 1000) (hm : m ≤ 1000000) (hr16 : r ≤ 16777216) (A : Option Addr) (n c : Nat) (b : BS) (hl : b.length = n) (hr : Rd w A b) (hn : n ≤ 262144) (hc : cnt < 9007199254740991) :
    Calls Try.prog 17 #[.pointer (some ⟨J, 0, none⟩), .slice A n c] w (GotJ w own J d (.int .i64 ((dE s ⟨0, jn, [], recE (cnt + 1) b⟩).2 : Nat)) (dE s ⟨0, jn, [], recE (cnt + 1) b⟩).1 (if (dE s ⟨0, jn, [], recE (cnt + 1) b⟩).2 = 0 then cnt + 1 else cnt) kp) := by
  have hmf : ∀ (fn : Fn) (first cap : Array Value) (w : World), (Instr.makeFunc fn first cap).run Try.prog w = .ok (.func fn first cap) w := fun _ _ _ _ => rfl
  have HJ := Lib.hid hJ
  have HD := Lib.hid hD
  have HL := Lib.hid hl
  have jlt := hJ.1.lt
  have c1 := hJ.1.cell 1 _ rfl
  have hne : J ≠ w.heap.size := by omega
  have hN : ∀ j, w.heap.size ≤ j → own j = none := fun j hj => own_new hD hj
  have hb0 : Below w.heap.size w (w.alloc (.cells #[.pointer (some ⟨J, 0, none⟩)] 45)) := (Below.refl _ _).alloc (Nat.le_refl _) _
  have hrf := jrefusal_any (hJ.kept (Kept.of_below hb0 own))
  obtain ⟨z, hz⟩ : ∃ z, z = (dE s ⟨0, jn, [], recE (cnt + 1) b⟩).2 := ⟨_, rfl⟩
  obtain ⟨S, hS⟩ : ∃ S, S = (dE s ⟨0, jn, [], recE (cnt + 1) b⟩).1 := ⟨_, rfl⟩
  have hz2 := app_err s (recE (cnt + 1) b)
  rw [← hz] at hz2
  rw [← hz, ← hS]
  have HZ := Lib.hid hz
  have HS := Lib.hid hS
  clear hJ hD hl hz hS
  have key : ∀ cnt', cnt' = (if z = 0 then cnt + 1 else cnt) → Calls Try.prog 17 #[.pointer (some ⟨J, 0, none⟩), .slice A n c] w (GotJ w own J d (.int .i64 (z : Int)) S cnt' kp) := by
    intro cnt' hcnt
    have HC := Lib.hid hcnt
    clear hcnt
    go_enter Try.func17, Try.ntmps17
    go_wp2_with fail
    refine hrf.mono ?_
    rintro e w1 ⟨rfl, rfl⟩
    clear hrf
    go_wp2_with fail
    have hrc := record_any (cnt + 1) A n c b (w.alloc (.cells #[.pointer (some ⟨J, 0, none⟩)] 45)) (by omega) (by omega) HL.out (hr.below hb0) hn
    have e1 : (((cnt + 1 : Nat)) : Int) = (cnt : Int) + 1 := by omega
    rw [e1] at hrc
    refine hrc.mono ?_
    rintro e w2 ⟨v2, rfl, ho2, hb2⟩
    obtain ⟨A2, c2, rfl, _, _, hr2⟩ := ho2.shape
    have hplt : w.heap.size < w2.heap.size := by have := hb2.size; simp at this; omega
    have hbw2 := bl_trans hb0 hb2
    have hp2 : Blk w2 w.heap.size [.pointer (some ⟨J, 0, none⟩)] 45 := Blk.same (heap_alloc_new w _) (hb2.block _ (by simp))
    have cp := hp2.cell 0 _ rfl
    obtain ⟨X, hX⟩ : ∃ X, X = ((w2.alloc (.cells #[.slice A2 (recE (cnt + 1) b).length c2] 30)).alloc (.cells #[.func (.func 51) #[] #[.pointer (some ⟨w.heap.size, 0, none⟩), .pointer (some ⟨w2.heap.size, 0, none⟩)]] 49)) := ⟨_, rfl⟩
    have hbX : Below w2.heap.size w2 X := by rw [hX]; exact bl_alloc (bl_alloc (Below.refl _ _) _) _
    have hbwX := bl_trans hbw2 hbX
    have HX := Lib.hid hX
    have hJX := HJ.out.kept (Kept.of_below hbwX own)
    have hDX := HD.out.below hbwX
    have hpX : VarAt X own w.heap.size (.pointer (some ⟨J, 0, none⟩)) 45 := ⟨hp2.same (hbX.block _ hplt), hN _ (Nat.le_refl _)⟩
    have hqX : VarAt X own w2.heap.size (.slice A2 (recE (cnt + 1) b).length c2) 30 := ⟨by
      rw [hX]
      exact Blk.same (heap_alloc_new w2 _) (Below.heap_alloc _ _ _ (by simp)), hN _ (by omega)⟩
    have hgX : Blk X (w2.heap.size + 1) [.func (.func 51) #[] #[.pointer (some ⟨w.heap.size, 0, none⟩), .pointer (some ⟨w2.heap.size, 0, none⟩)]] 49 := by
      rw [hX]
      exact alls_at w2 [.cells #[.slice A2 (recE (cnt + 1) b).length c2] 30, .cells #[.func (.func 51) #[] #[.pointer (some ⟨w.heap.size, 0, none⟩), .pointer (some ⟨w2.heap.size, 0, none⟩)]] 49] 1 (by simp)
    have hfr : 0 < (recE (cnt + 1) b).length → ∀ p, A2 = some p → own p.block = none := fun h0 p hp => by
      have h1 := ho2.lt p.block (by rw [hp]; rfl)
      simp at h1
      exact hN _ (by omega)
    have hclo := append1_any (cnt := cnt) (kp := kp) hpX hJX hqX rfl (hr2.below hbX) hfr (by rw [rec_len, HL.out]; omega) hDX hR hk hm hr16
    rw [← HZ.out, ← HS.out] at hclo
    have hdo := doesA_any _ hgX hJX hclo
    rw [HX.out] at hdo
    have hfalse : decide (z ≠ 0 ∧ z ≠ 52) = false := by
      rcases hz2 with h | h
      · subst h; rfl
      · subst h; rfl
    rw [hfalse] at hdo
    have HK := Lib.hid (Kept.jo (Kept.of_below hbwX own) J)
    have jlt2 : J < w2.heap.size := by omega
    have HPX := Lib.hid hpX
    clear hrc ho2 hr2 hX hbX hbwX hJX hDX hpX hqX hgX hfr hclo hfalse hp2 hb2 hbw2
    have HDO := Lib.hid hdo
    clear hdo
    rcases hz2 with rfl | rfl
    · have hc' : cnt' = cnt + 1 := by rw [HC.out, if_pos rfl]
      subst hc'
      go_wp2_with fail
      refine HDO.out.mono ?_
      rintro e w5 ⟨rfl, own5, hD5, hK5, hJ5⟩
      rw [← HX.out] at hK5
      have h9 := HPX.out.1.same (hK5.block _ HPX.out.1.lt (jo_of HPX.out.2 (by omega)))
      have c9 := h9.cell 0 _ rfl
      have c10 := hJ5.1.cell 1 _ rfl
      have z10 := hJ5.1.free 1
      have HJ5 := Lib.hid hJ5
      have HD5 := Lib.hid hD5
      have HK5 := Lib.hid hK5
      clear hJ5 hD5 hK5
      go_wp2_with fail
      go_ret
      have hg := grown_set w5 ⟨J, 1, none⟩ (.int .i64 ((cnt : Int) + 1))
      obtain ⟨bn, bk, loc, hA5⟩ := HD5.out
      exact ⟨rfl, own5, ⟨bn, bk, loc, hA5.grown hg fun c e => by cases e; exact HJ5.out.2⟩, (HK.out.trans HK5.out).set (p := ⟨J, 1, none⟩) (jo_at _ _) _, HJ5.out.1.set 1 _, HJ5.out.2⟩
    · have hc' : cnt' = cnt := by rw [HC.out, if_neg (by omega)]
      subst hc'
      go_wp2_with fail
      refine HDO.out.mono ?_
      rintro e w5 ⟨rfl, own5, hD5, hK5, hJ5⟩
      go_wp2_with fail
      go_ret
      rw [← HX.out] at hK5
      exact ⟨rfl, own5, hD5, HK.out.trans hK5, hJ5⟩
  exact key _ rfl
set_option maxHeartbeats 4000000 in
set_option maxRecDepth 40000 in
theorem jsync_any (hJ : JIn w own J d cnt kp false) (hD : DiskIn w own d s) (hR : Run s k m r) (hk : k ≤ 1000) (hm : m ≤ 1000000) (hz : (dE s ⟨1, jn, [], []⟩).2 = 0) :
    Calls Try.prog 18 #[.pointer (some ⟨J, 0, none⟩)] w (GotJ w own J d (.int .i64 0) (dE s ⟨1, jn, [], []⟩).1 cnt cnt) := by
  have hmf : ∀ (fn : Fn) (first cap : Array Value) (w : World), (Instr.makeFunc fn first cap).run Try.prog w = .ok (.func fn first cap) w := fun _ _ _ _ => rfl
  have HJ := Lib.hid hJ
  have HD := Lib.hid hD
  have jlt := hJ.1.lt
  have hne : J ≠ w.heap.size := by omega
  have hN : ∀ j, w.heap.size ≤ j → own j = none := fun j hj => own_new hD hj
  have hb0 : Below w.heap.size w (w.alloc (.cells #[.pointer (some ⟨J, 0, none⟩)] 45)) := (Below.refl _ _).alloc (Nat.le_refl _) _
  have hrf := jrefusal_any (hJ.kept (Kept.of_below hb0 own))
  obtain ⟨S, hS⟩ : ∃ S, S = (dE s ⟨1, jn, [], []⟩).1 := ⟨_, rfl⟩
  rw [← hS]
  have HS := Lib.hid hS
  have HZ := Lib.hid hz
  clear hJ hD hS hz
  obtain ⟨X, hX⟩ : ∃ X, X = ((w.alloc (.cells #[.pointer (some ⟨J, 0, none⟩)] 45)).alloc (.cells #[.func (.func 52) #[] #[.pointer (some ⟨w.heap.size, 0, none⟩)]] 49)) := ⟨_, rfl⟩
  have hbX : Below w.heap.size w X := by rw [hX]; exact bl_alloc hb0 _
  have HX := Lib.hid hX
  have hJX := HJ.out.kept (Kept.of_below hbX own)
  have hDX := HD.out.below hbX
  have hpX : VarAt X own w.heap.size (.pointer (some ⟨J, 0, none⟩)) 45 := ⟨by
    rw [hX]
    exact alls_at w [.cells #[.pointer (some ⟨J, 0, none⟩)] 45, .cells #[.func (.func 52) #[] #[.pointer (some ⟨w.heap.size, 0, none⟩)]] 49] 0 (by simp), hN _ (Nat.le_refl _)⟩
  have hgX : Blk X (w.heap.size + 1) [.func (.func 52) #[] #[.pointer (some ⟨w.heap.size, 0, none⟩)]] 49 := by
    rw [hX]
    exact alls_at w [.cells #[.pointer (some ⟨J, 0, none⟩)] 45, .cells #[.func (.func 52) #[] #[.pointer (some ⟨w.heap.size, 0, none⟩)]] 49] 1 (by simp)
  have hclo := sync1_any (cnt := cnt) (kp := kp) hpX hJX hDX hR hk hm
  rw [HZ.out, ← HS.out] at hclo
  have hdo := doesS_any (q := 0) _ hgX hJX hclo
  rw [HX.out] at hdo
  have hfalse : decide ((0 : Nat) ≠ 0 ∧ (0 : Nat) ≠ 52) = false := rfl
  rw [hfalse] at hdo
  have HK := Lib.hid (Kept.jo (Kept.of_below hbX own) J)
  have HPX := Lib.hid hpX
  have HDO := Lib.hid hdo
  clear hX hbX hJX hDX hpX hgX hclo hfalse hdo
  go_enter Try.func18, Try.ntmps18
  go_wp2_with fail
  refine hrf.mono ?_
  rintro e w1 ⟨rfl, rfl⟩
  clear hrf
  go_wp2_with fail
  refine HDO.out.mono ?_
  rintro e w5 ⟨rfl, own5, hD5, hK5, hJ5⟩
  rw [← HX.out] at hK5
  have h9 := HPX.out.1.same (hK5.block _ HPX.out.1.lt (jo_of HPX.out.2 (by omega)))
  have c9 := h9.cell 0 _ rfl
  have c10 := hJ5.1.cell 1 _ rfl
  have c11 := hJ5.1.cell 2 _ rfl
  have z10 := hJ5.1.free 2
  have HJ5 := Lib.hid hJ5
  have HD5 := Lib.hid hD5
  have HK5 := Lib.hid hK5
  clear hJ5 hD5 hK5
  go_wp2_with fail
  go_region
  go_wp2_with fail
  go_ret
  have hg := grown_set w5 ⟨J, 2, none⟩ (.int .i64 (cnt : Int))
  obtain ⟨bn, bk, loc, hA5⟩ := HD5.out
  exact ⟨rfl, own5, ⟨bn, bk, loc, (hA5.grown hg fun c e => by cases e; exact HJ5.out.2).drew⟩, ((HK.out.trans HK5.out).set (p := ⟨J, 2, none⟩) (jo_at _ _) _).drew, HJ5.out.1.set 2 _, HJ5.out.2⟩
end
end Go.Proofs.Ytdgaipdpebinbaa
