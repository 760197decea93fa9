/- Check, Takes, Nil. Under: math/bits' table as it was laid. -/
import Derived.Test.YteedmkokbapkgaaDoorRgY
set_option linter.unusedVariables false
set_option linter.unusedSimpArgs false
namespace Go.Proofs.YteedmkokbapkgaaDoor
open Go.RowKit

def checkE (l : List RN) : Nat := if 256 < l.length then 5 else if oneTree l = true then 0 else 2
def GotE (w : World) (k : Nat) (e : Ending) (w' : World) : Prop := e = .returned (.int .i64 (k : Int)) ∧ Below w.heap.size w w'
def GotBE (w : World) (r : Bool × Nat) (e : Ending) (w' : World) : Prop := e = .returned (.tuple #[.bool r.1, .int .i64 (r.2 : Int)]) ∧ Below w.heap.size w w'

set_option maxRecDepth 20000 in
set_option maxHeartbeats 1000000 in
theorem check_any (l : List RN) (A : Option Addr) (n c : Nat) (hn : l.length = n) (w : World) (hr : RdR w A l) (hc : n ≤ c) :
    Calls Tryd.prog 14 #[.agg #[.slice A n c]] w (GotE w (checkE l)) := by
  generalize hQ : GotE w (checkE l) = Q
  have HQ := Lib.hid hQ
  have HR := Lib.hid hr
  have HN := Lib.hid hn
  clear hQ hr hn
  have hb := bl_alloc (Below.refl w.heap.size w) (.cells #[.slice A n c] 24)
  have HB := Lib.hid hb
  clear hb
  go_enter Tryd.func14, Tryd.ntmps14
  by_cases h : 256 < n
  · have h' : (256 : Int) < (n : Int) := by omega
    go_wp2_with fail
    refine post_is HQ ⟨?_, HB.out⟩
    rw [checkE, HN.out, if_pos h]
    rfl
  · have h' : ¬ (256 : Int) < (n : Int) := by omega
    go_wp2_with fail
    refine (tree_any l A n c HN.out _ (HR.out.below HB.out) (by omega) hc).mono ?_
    rintro e w2 ⟨rfl, hb2⟩
    have HB2 := Lib.hid (bl_trans HB.out hb2)
    clear hb2
    cases ht : oneTree l with
    | true =>
      clear HR
      go_wp2_with fail
      refine post_is HQ ⟨?_, HB2.out⟩
      rw [checkE, HN.out, if_neg h, if_pos ht]
      rfl
    | false =>
      clear HR
      go_wp2_with fail
      refine post_is HQ ⟨?_, HB2.out⟩
      rw [checkE, HN.out, if_neg h, if_neg (by rw [ht]; simp)]
      rfl

theorem flat_ab (t : Rx) : ∀ (k : Nat) (nd : RN), nd ∈ flat k t → 0 ≤ nd.a ∧ nd.a < ((k + t.size : Nat) : Int) ∧ 0 ≤ nd.b ∧ nd.b < ((k + t.size : Nat) : Int) := by
  induction t with
  | nil => intro k nd h; rw [flat, List.mem_singleton] at h; subst h; simp only [Rx.size]; omega
  | set s => intro k nd h; rw [flat, List.mem_singleton] at h; subst h; simp only [Rx.size]; omega
  | seq a b iha ihb =>
    intro k nd h
    have h1 := a.size_pos
    have h2 := b.size_pos
    rw [flat, List.mem_append, List.mem_append, List.mem_singleton] at h
    simp only [Rx.size]
    rcases h with (h | h) | h
    · have := iha k nd h; omega
    · have := ihb _ nd h; omega
    · subst h; simp only []; omega
  | alt a b iha ihb =>
    intro k nd h
    have h1 := a.size_pos
    have h2 := b.size_pos
    rw [flat, List.mem_append, List.mem_append, List.mem_singleton] at h
    simp only [Rx.size]
    rcases h with (h | h) | h
    · have := iha k nd h; omega
    · have := ihb _ nd h; omega
    · subst h; simp only []; omega
  | star a iha =>
    intro k nd h
    have h1 := a.size_pos
    rw [flat, List.mem_append, List.mem_singleton] at h
    simp only [Rx.size]
    rcases h with h | h
    · have := iha k nd h; omega
    · subst h; simp only []; omega
  | plus a iha =>
    intro k nd h
    have h1 := a.size_pos
    rw [flat, List.mem_append, List.mem_singleton] at h
    simp only [Rx.size]
    rcases h with h | h
    · have := iha k nd h; omega
    · subst h; simp only []; omega

/-- Whether a text is taken, by the nodes. -/
def takesL (l : List RN) (t : List UInt8) : Bool :=
  runS (labOf l) (chartE [] (fun _ => nilS) l).2 ((chartE [] (fun _ => nilS) l).1.getD (l.length - 1) nilSp).las ((chartE [] (fun _ => nilS) l).1.getD (l.length - 1) nilSp).none ((chartE [] (fun _ => nilS) l).1.getD (l.length - 1) nilSp).fir t
theorem takesL_flat (tr : Rx) (t : List UInt8) : takesL (flat 0 tr) t = takesS (labOf (flat 0 tr)) tr t := by
  obtain ⟨xs, hx, he⟩ := chart_all tr
  have hg : (xs ++ [spOf 0 tr]).getD ((flat 0 tr).length - 1) nilSp = spOf 0 tr := by
    have : (flat 0 tr).length - 1 = xs.length := by rw [flat_len]; omega
    rw [this]
    simp
  rw [takesL, he, takesS]
  simp only [hg]
  rfl
def takesE (l : List RN) (t : List UInt8) : Bool × Nat := if checkE l ≠ 0 then (false, checkE l) else if 8192 < t.length then (false, 5) else (takesL l t, 0)
theorem check_zero {l : List RN} (h : checkE l = 0) : l.length ≤ 256 ∧ oneTree l = true := by
  unfold checkE at h
  split at h
  · simp at h
  · split at h
    · exact ⟨by omega, by assumption⟩
    · simp at h

set_option maxRecDepth 20000 in
set_option maxHeartbeats 2000000 in
theorem takes_all (l : List RN) (A : Option Addr) (n c : Nat) (At : Option Addr) (m ct : Nat) (t : List UInt8) (hn : l.length = n) (hm : t.length = m) (w : World) (hT : Tab w) (hr : RdR w A l) (ht : Rd w At t) (hc : n ≤ c) :
    Calls Tryd.prog 18 #[.agg #[.slice A n c], .slice At m ct] w (GotBE w (takesE l t)) := by
  generalize hQ : GotBE w (takesE l t) = Q
  have HQ := Lib.hid hQ
  have HR := Lib.hid hr
  have HN := Lib.hid hn
  have HT := Lib.hid hT
  have HM := Lib.hid hm
  have HTT := Lib.hid ht
  clear hQ hr hn hT hm ht
  have HB := Lib.hid (bl_alloc (Below.refl w.heap.size w) (.cells #[.slice A n c] 24))
  have hP : (w.alloc (.cells #[.slice A n c] 24)).heap[w.heap.size]? = some (.cells #[.slice A n c] 24 (0, 0)) := heap_alloc_new w _
  have HP := Lib.hid hP
  clear hP
  go_enter Tryd.func18, Tryd.ntmps18
  go_wp2_with fail
  refine (check_any l A n c HN.out _ (HR.out.below HB.out) hc).mono ?_
  rintro e w2 ⟨rfl, hb2⟩
  have HP2 := Lib.hid ((hb2.block w.heap.size (by simp)).trans HP.out)
  have HB2 := Lib.hid (bl_trans HB.out hb2)
  clear hb2 HP HB
  generalize hk : checkE l = k
  have HK := Lib.hid hk
  clear hk
  by_cases h0 : k = 0
  · subst h0
    by_cases hlong : 8192 < m
    · have h' : (8192 : Int) < (m : Int) := by omega
      go_wp2_with fail
      refine post_is HQ ⟨?_, HB2.out⟩
      rw [takesE, HK.out, HM.out, if_neg (by simp), if_pos hlong]
      rfl
    · have h' : ¬ (8192 : Int) < (m : Int) := by omega
      have hcell := cell_of_row w2 w.heap.size 0 _ _ _ HP2.out
      have hzz := check_zero HK.out
      have hn2 := HN.out
      obtain ⟨tr, htr⟩ := flat_of_tree l hzz.2
      have hsz : tr.size = n := by rw [← hn2, htr, flat_len]
      have hpos := tr.size_pos
      have hab : ∀ nd ∈ l, 0 ≤ nd.a ∧ nd.a < (n : Int) ∧ 0 ≤ nd.b ∧ nd.b < (n : Int) := fun nd hnd => by
        have := flat_ab tr 0 nd (by rw [← htr]; exact hnd)
        rw [Nat.zero_add, hsz] at this
        exact this
      have hle : n ≤ 256 := by omega
      have h1 : 1 ≤ n := by omega
      have hin := chartE_in (N := n) l [] (fun _ => nilS) (by simp; omega) (by simp) (fun _ => InS.nil n)
      have HIN := Lib.hid hin
      have HAB := Lib.hid hab
      clear hzz htr hsz hpos hab hin hn2
      go_wp2_with fail
      refine (chart_of l A n c HN.out _ (HT.out.below HB2.out) (HR.out.below HB2.out) h1 hle HAB.out).mono ?_
      rintro e w3 ⟨cs, q, rfl, hch, hbh, hb3⟩
      have HB3 := Lib.hid (bl_trans HB2.out hb3)
      clear hb3 hcell
      go_wp2_with fail
      refine (takes_any cs _ _ _ A n c q _ l At m ct t _ hch (HT.out.below HB3.out) HN.out (HR.out.below HB3.out) hbh hle (getD_in HIN.out.1 _).1 (fun p _ => HIN.out.2 p) HM.out (HTT.out.below HB3.out) (by unfold maxLen; omega)).mono ?_
      rintro e w4 ⟨rfl, hb4⟩
      have HB4 := Lib.hid (bl_trans HB3.out hb4)
      clear hb4 hch hbh
      go_wp2_with fail
      refine post_is HQ ⟨?_, HB4.out⟩
      rw [takesE, HK.out, HM.out, if_neg (by simp), if_neg hlong, takesL, HN.out]
      rfl
  · have h' : ((k : Int) == 0) = false := by simp; omega
    go_wp2_with fail
    refine post_is HQ ⟨?_, HB2.out⟩
    rw [takesE, HK.out, if_pos h0]
    rfl

set_option maxRecDepth 20000 in
set_option maxHeartbeats 1000000 in
theorem nil_all (l : List RN) (A : Option Addr) (n c : Nat) (hn : l.length = n) (w : World) (hT : Tab w) (hr : RdR w A l) (hc : n ≤ c) :
    Calls Tryd.prog 12 #[.agg #[.slice A n c]] w (GotBE w (takesE l [])) := by
  have HB := Lib.hid (bl_alloc (Below.refl w.heap.size w) (.cells #[.slice A n c] 24))
  have HT := Lib.hid hT
  have HR := Lib.hid hr
  generalize hQ : GotBE w (takesE l []) = Q
  have HQ := Lib.hid hQ
  clear hT hr hQ
  go_enter Tryd.func12, Tryd.ntmps12
  go_wp2_with fail
  refine (takes_all l A n c none 0 0 [] hn rfl _ (HT.out.below HB.out) (HR.out.below HB.out) (fun h => absurd h (by simp)) hc).mono ?_
  rintro e w2 ⟨rfl, hb2⟩
  have HB2 := Lib.hid (bl_trans HB.out hb2)
  clear hb2
  go_wp2_with fail
  exact post_is HQ ⟨rfl, HB2.out⟩

end Go.Proofs.YteedmkokbapkgaaDoor
