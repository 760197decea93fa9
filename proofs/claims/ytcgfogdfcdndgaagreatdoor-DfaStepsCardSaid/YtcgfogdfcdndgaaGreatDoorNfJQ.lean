/- A walk over a net, begun. -/
import Derived.Test.YtcgfogdfcdndgaaGreatDoorNfIQ
set_option linter.unusedVariables false
set_option linter.unusedSimpArgs false
namespace Go.Proofs.YtcgfogdfcdndgaaGreatDoor
open Go.RowKit

end Go.Proofs.YtcgfogdfcdndgaaGreatDoor

/- Whether a net may be: its states, its edges. -/
set_option linter.unusedVariables false
set_option linter.unusedSimpArgs false
namespace Go.Proofs.YtcgfogdfcdndgaaGreatDoor
open Go.RowKit
attribute [local go_sem] Oper.semAt_some

/-- A slice reads as whole numbers. -/
def RdW (w : World) (A : Option Addr) (l : List Int) : Prop := ∀ k (h : k < l.length), ∃ ad, A = some ad ∧ w.cell? (ad.add k) = some (.int .i64 l[k])
theorem RdW.below {w w' : World} {A : Option Addr} {l : List Int} (h : RdW w A l) (hb : Below w.heap.size w w') : RdW w' A l := fun k hk => by
  obtain ⟨ad, e, hc⟩ := h k hk
  exact ⟨ad, e, (hb.cell (World.block_lt_of_cell? w _ hc)).trans hc⟩
def GotBl (W : World) (b : Bool) (e : Ending) (W' : World) : Prop := e = .returned (.bool b) ∧ Below W.heap.size W W'

set_option maxRecDepth 20000 in
theorem st1_any (S x : Int) (Ae Ax : Option Addr) (ne ce nx cx b : Nat) (W : World) (hb : W.heap[b]? = some (.cells #[.int .i64 S, .slice Ae ne ce, .slice Ax nx cx] 25 (0, 0))) :
    Calls Tryz.prog 68 #[.int .i64 x, .pointer (some ⟨b, 0, none⟩)] W (GotBl W (!okSt S x)) := by
  generalize hQ : GotBl W (!okSt S x) = Q
  have HQ := Lib.hid hQ
  have c0 := cell_of_row W b 0 _ _ _ hb
  clear hQ hb
  by_cases hx : x < 0
  · have d0 : decide (x < 0) = true := by simpa using hx
    go_enter Tryz.func68, Tryz.ntmps68
    go_wp2_with fail
    refine post_is HQ ⟨?_, Below.refl _ _⟩
    rw [okSt, decide_eq_false (show ¬ 0 ≤ x by omega)]
    rfl
  · have d0 : decide (x < 0) = false := by simpa using hx
    obtain ⟨q, hq⟩ : ∃ q, decide (S ≤ x) = q := ⟨_, rfl⟩
    have HO := Lib.hid (show (!okSt S x) = q by rw [okSt, decide_eq_true (show 0 ≤ x by omega), ← hq]; by_cases h : S ≤ x <;> simp [h] <;> omega)
    go_enter Tryz.func68, Tryz.ntmps68
    go_wp2_with fail
    refine post_is HQ ⟨?_, Below.refl _ _⟩
    rw [HO.out]

/-- What IndexFunc tells: a place, or -1. -/
def GotIx (W : World) (n : Nat) (bad : Bool) (e : Ending) (W' : World) : Prop := (∃ k : Nat, k < n ∧ e = .returned (.int .i64 (k : Int)) ∧ bad = true ∧ Below W.heap.size W W') ∨ (e = .returned (.int .i64 (-1)) ∧ bad = false ∧ Below W.heap.size W W')
set_option maxRecDepth 100000 in
set_option maxHeartbeats 2000000 in
theorem ixst_any (S : Int) (l : List Int) (A : Option Addr) (n c : Nat) (hn : l.length = n) (hn2 : n ≤ 140737488355328) (Ae Ax : Option Addr) (ne ce nx cx b : Nat) (W : World) (hb : W.heap[b]? = some (.cells #[.int .i64 S, .slice Ae ne ce, .slice Ax nx cx] 25 (0, 0))) (hr : RdW W A l) :
    Calls Tryz.prog 47 #[.slice A n c, .func (.func 68) #[] #[.pointer (some ⟨b, 0, none⟩)]] W (GotIx W n (!l.all (okSt S))) := by
  generalize hQ : GotIx W n (!l.all (okSt S)) = Q
  have HQ := Lib.hid hQ
  have HB := Lib.hid hb
  have HR := Lib.hid hr
  have HN := Lib.hid hn
  clear hQ hb hr hn
  go_enter Tryz.func47, Tryz.ntmps47
  go_wp2_with fail
  go_loopw [8] (fun vi wr => ∃ k : Nat, k ≤ n ∧ vi = .int .i64 (k : Int) ∧ Hid ((l.take k).all (okSt S) = true) ∧ Hid (Below W.heap.size W wr)) (fun vi _ => n - (intOf vi).toNat)
  case atStart => exact ⟨0, Nat.zero_le _, rfl, rfl, Below.refl _ _⟩
  case round =>
    obtain ⟨k, hk, rfl, HA, HBW⟩ := hrel
    by_cases hlt : k < n
    · have hkl : k < l.length := by rw [HN.out]; exact hlt
      obtain ⟨ad, hA, hc1⟩ := (HR.out.below HBW.out) k hkl
      subst hA
      have TK := Lib.hid (show (l.take (k + 1)).all (okSt S) = ((l.take k).all (okSt S) && okSt S l[k]) by rw [List.take_succ_eq_append_getElem hkl, List.all_append]; simp)
      have hmem := List.getElem_mem hkl
      have hbd : okSt S l[k] = false → l.all (okSt S) = false := fun h => by
        rw [Bool.eq_false_iff]
        intro ha
        rw [List.all_eq_true.1 ha _ hmem] at h
        cases h
      generalize l[k] = x at *
      have HBD := Lib.hid hbd
      have hcon := st1_any S x Ae Ax ne ce nx cx b wr ((HBW.out.block b (Array.getElem?_eq_some_iff.1 HB.out).1).trans HB.out)
      have HCON := Lib.hid hcon
      clear hkl hmem hbd hcon
      go_wp2_with fail
      refine HCON.out.mono ?_
      rintro e w2 ⟨rfl, hb2⟩
      have HB2 := Lib.hid (bl_trans HBW.out hb2)
      clear hb2 HCON HBW hc1
      obtain ⟨q, hq⟩ : ∃ q, okSt S x = q := ⟨_, rfl⟩
      rw [hq] at TK HBD ⊢
      clear hq
      cases q with
      | true =>
        go_wp2_with fail
        refine ⟨⟨k + 1, by omega, by go_num, ?_, HB2.out⟩, by simp [intOf]; omega⟩
        unfold Hid
        rw [TK.out, HA.out]
        rfl
      | false =>
        go_wp2_with fail
        refine post_is HQ (Or.inl ⟨k, hlt, rfl, ?_, HB2.out⟩)
        rw [HBD.out trivial]
        rfl
    · obtain rfl : k = n := by omega
      have hall : l.all (okSt S) = true := by have := HA.out; rwa [List.take_of_length_le (by rw [HN.out]; omega)] at this
      have HAL := Lib.hid hall
      clear hall
      go_wp2_with fail
      refine post_is HQ (Or.inr ⟨rfl, ?_, HBW.out⟩)
      rw [HAL.out]
      rfl
set_option maxRecDepth 20000 in
theorem cnst_any (S : Int) (l : List Int) (A : Option Addr) (n c : Nat) (hn : l.length = n) (hn2 : n ≤ 140737488355328) (Ae Ax : Option Addr) (ne ce nx cx b : Nat) (W : World) (hb : W.heap[b]? = some (.cells #[.int .i64 S, .slice Ae ne ce, .slice Ax nx cx] 25 (0, 0))) (hr : RdW W A l) :
    Calls Tryz.prog 67 #[.slice A n c, .func (.func 68) #[] #[.pointer (some ⟨b, 0, none⟩)]] W (GotBl W (!l.all (okSt S))) := by
  have HC := Lib.hid (ixst_any S l A n c hn hn2 Ae Ax ne ce nx cx b W hb hr)
  generalize hQ : GotBl W (!l.all (okSt S)) = Q
  have HQ := Lib.hid hQ
  clear hQ hb hr hn
  go_enter Tryz.func67, Tryz.ntmps67
  go_wp2_with fail
  refine HC.out.mono ?_
  rintro e w2 (⟨k, hk, rfl, h2, hb2⟩ | ⟨rfl, h2, hb2⟩)
  · have HB2 := Lib.hid hb2
    have H2 := Lib.hid h2
    have d0 : decide ((0 : Int) ≤ (k : Int)) = true := by simp
    clear hb2 h2 HC
    go_wp2_with fail
    refine post_is HQ ⟨?_, HB2.out⟩
    rw [H2.out]
    rfl
  · have HB2 := Lib.hid hb2
    have H2 := Lib.hid h2
    clear hb2 h2 HC
    go_wp2_with fail
    refine post_is HQ ⟨?_, HB2.out⟩
    rw [H2.out]
    rfl
set_option maxRecDepth 20000 in
theorem areSt_any (S : Int) (l : List Int) (A : Option Addr) (n c : Nat) (hn : l.length = n) (hn2 : n ≤ 140737488355328) (Ae Ax : Option Addr) (ne ce nx cx : Nat) (W : World) (hr : RdW W A l) :
    Calls Tryz.prog 40 #[.agg #[.int .i64 S, .slice Ae ne ce, .slice Ax nx cx], .slice A n c] W (GotBl W (l.all (okSt S))) := by
  have hb0 := bl_alloc (Below.refl W.heap.size W) (.cells #[.int .i64 S, .slice Ae ne ce, .slice Ax nx cx] 25)
  have HC := Lib.hid (cnst_any S l A n c hn hn2 Ae Ax ne ce nx cx W.heap.size _ (heap_alloc_new W (.cells #[.int .i64 S, .slice Ae ne ce, .slice Ax nx cx] 25)) (hr.below hb0))
  have HB0 := Lib.hid hb0
  have hmf : ∀ (fn : Fn) (first cap : Array Value) (w : World), (Instr.makeFunc fn first cap).run Tryz.prog w = .ok (.func fn first cap) w := fun _ _ _ _ => rfl
  generalize hQ : GotBl W (l.all (okSt S)) = Q
  have HQ := Lib.hid hQ
  clear hQ hr hn hb0
  go_enter Tryz.func40, Tryz.ntmps40
  go_wp2_with fail
  refine HC.out.mono ?_
  rintro e w2 ⟨rfl, hb2⟩
  have HB2 := Lib.hid (bl_trans HB0.out hb2)
  clear hb2 HC
  go_wp2_with fail
  refine post_is HQ ⟨?_, HB2.out⟩
  simp

end Go.Proofs.YtcgfogdfcdndgaaGreatDoor

/- Whether a net may be: its edges; Check. -/
set_option linter.unusedVariables false
set_option linter.unusedSimpArgs false
namespace Go.Proofs.YtcgfogdfcdndgaaGreatDoor
open Go.RowKit
attribute [local go_sem] Oper.semAt_some

def edArr (e : Ed) : Array Value := #[.int .i64 e.fr, .int .i64 e.to, .int .u64 (e.set.w0.toNat : Int), .int .u64 (e.set.w1.toNat : Int), .int .u64 (e.set.w2.toNat : Int), .int .u64 (e.set.w3.toNat : Int), .bool e.free]
theorem eq_empty (s : S4) (W : World) : (Op.equalIn 10000 51 (.agg #[.int .u64 (s.w0.toNat : Int), .int .u64 (s.w1.toNat : Int), .int .u64 (s.w2.toNat : Int), .int .u64 (s.w3.toNat : Int)]) (.agg #[.int .u64 0, .int .u64 0, .int .u64 0, .int .u64 0])).run Tryz.prog W = .ok (decide (s = nilS)) W := by
  by_cases h : s = nilS
  · rw [decide_eq_true h]
    exact set_same (z0 := s.w0) (z1 := s.w1) (z2 := s.w2) (z3 := s.w3) h W
  · rw [decide_eq_false h]
    exact set_other (z0 := s.w0) (z1 := s.w1) (z2 := s.w2) (z3 := s.w3) h W
attribute [-go_sem] run_equalIn_agg
set_option maxRecDepth 100000 in
set_option maxHeartbeats 2000000 in
theorem may_any (S : Int) (e : Ed) (Ae Ax : Option Addr) (ne ce nx cx : Nat) (W : World) :
    Calls Tryz.prog 43 #[.agg #[.int .i64 S, .slice Ae ne ce, .slice Ax nx cx], .agg (edArr e)] W (GotBl W (okEd S e)) := by
  generalize hQ : GotBl W (okEd S e) = Q
  have HQ := Lib.hid hQ
  clear hQ
  unfold edArr
  have hb0 := bl_alloc (bl_alloc (Below.refl W.heap.size W) (.cells #[.int .i64 S, .slice Ae ne ce, .slice Ax nx cx] 25)) (.cells #[.int .i64 e.fr, .int .i64 e.to, .int .u64 (e.set.w0.toNat : Int), .int .u64 (e.set.w1.toNat : Int), .int .u64 (e.set.w2.toNat : Int), .int .u64 (e.set.w3.toNat : Int), .bool e.free] 53)
  have k1 : ((W.alloc (.cells #[.int .i64 S, .slice Ae ne ce, .slice Ax nx cx] 25)).alloc (.cells #[.int .i64 e.fr, .int .i64 e.to, .int .u64 (e.set.w0.toNat : Int), .int .u64 (e.set.w1.toNat : Int), .int .u64 (e.set.w2.toNat : Int), .int .u64 (e.set.w3.toNat : Int), .bool e.free] 53)).heap[W.heap.size + 1]? = some (.cells #[.int .i64 e.fr, .int .i64 e.to, .int .u64 (e.set.w0.toNat : Int), .int .u64 (e.set.w1.toNat : Int), .int .u64 (e.set.w2.toNat : Int), .int .u64 (e.set.w3.toNat : Int), .bool e.free] 53 (0, 0)) := by
    have := heap_alloc_new (W.alloc (.cells #[.int .i64 S, .slice Ae ne ce, .slice Ax nx cx] 25)) (.cells #[.int .i64 e.fr, .int .i64 e.to, .int .u64 (e.set.w0.toNat : Int), .int .u64 (e.set.w1.toNat : Int), .int .u64 (e.set.w2.toNat : Int), .int .u64 (e.set.w3.toNat : Int), .bool e.free] 53)
    rwa [World.size_alloc] at this
  have HB0 := Lib.hid hb0
  have K1 := Lib.hid k1
  clear hb0 k1
  go_enter Tryz.func43, Tryz.ntmps43
  go_wp2_with fail
  have hlit : RdW (((W.alloc (.cells #[.int .i64 S, .slice Ae ne ce, .slice Ax nx cx] 25)).alloc (.cells #[.int .i64 e.fr, .int .i64 e.to, .int .u64 (e.set.w0.toNat : Int), .int .u64 (e.set.w1.toNat : Int), .int .u64 (e.set.w2.toNat : Int), .int .u64 (e.set.w3.toNat : Int), .bool e.free] 53)).alloc (.cells #[.int .i64 e.fr, .int .i64 e.to] 3)) (some ⟨W.heap.size + 2, 0, none⟩) [e.fr, e.to] := by
    intro k hk
    refine ⟨_, rfl, ?_⟩
    have h := heap_alloc_new ((W.alloc (.cells #[.int .i64 S, .slice Ae ne ce, .slice Ax nx cx] 25)).alloc (.cells #[.int .i64 e.fr, .int .i64 e.to, .int .u64 (e.set.w0.toNat : Int), .int .u64 (e.set.w1.toNat : Int), .int .u64 (e.set.w2.toNat : Int), .int .u64 (e.set.w3.toNat : Int), .bool e.free] 53)) (.cells #[.int .i64 e.fr, .int .i64 e.to] 3)
    rw [World.size_alloc, World.size_alloc] at h
    rw [addr_mk, Nat.zero_add, cell_of_row _ _ k _ _ _ h]
    match k, hk with
    | 0, _ => rfl
    | 1, _ => rfl
  refine (areSt_any S [e.fr, e.to] (some ⟨W.heap.size + 2, 0, none⟩) 2 2 rfl (by omega) Ae Ax ne ce nx cx _ hlit).mono ?_
  rintro x w2 ⟨rfl, hb2⟩
  have hb3 := bl_trans (bl_alloc HB0.out (.cells #[.int .i64 e.fr, .int .i64 e.to] 3)) hb2
  have k2 := (hb2.block (W.heap.size + 1) (by simp)).trans ((Below.heap_alloc _ (.cells #[.int .i64 e.fr, .int .i64 e.to] 3) _ (Array.getElem?_eq_some_iff.1 K1.out).1).trans K1.out)
  have c6 := cell_of_row w2 (W.heap.size + 1) 6 _ _ _ k2
  have HB3 := Lib.hid hb3
  have K2 := Lib.hid k2
  clear hb2 hb3 k2 hlit HB0 K1
  have HSPL := Lib.hid (show okEd S e = ([e.fr, e.to].all (okSt S) && !(e.free && !decide (e.set = nilS))) by simp [okEd, okSt])
  obtain ⟨q1, hq1⟩ : ∃ q, [e.fr, e.to].all (okSt S) = q := ⟨_, rfl⟩
  obtain ⟨q2, hq2⟩ : ∃ q, e.free = q := ⟨_, rfl⟩
  rw [hq1] at HSPL ⊢
  rw [hq2] at HSPL c6
  clear hq1
  cases q1 with
  | false =>
    go_wp2_with fail
    refine post_is HQ ⟨?_, HB3.out⟩
    rw [HSPL.out]
    rfl
  | true =>
    cases q2 with
    | false =>
      go_wp2_with fail
      refine post_is HQ ⟨?_, HB3.out⟩
      rw [HSPL.out]
      rfl
    | true =>
      have c2 := cell_of_row w2 (W.heap.size + 1) 2 _ _ _ K2.out
      have c3 := cell_of_row w2 (W.heap.size + 1) 3 _ _ _ K2.out
      have c4 := cell_of_row w2 (W.heap.size + 1) 4 _ _ _ K2.out
      have c5 := cell_of_row w2 (W.heap.size + 1) 5 _ _ _ K2.out
      simp only [List.getElem?_toArray, List.getElem?_cons_succ, List.getElem?_cons_zero] at c2 c3 c4 c5
      obtain ⟨qe, hqe⟩ : ∃ q, decide (e.set = nilS) = q := ⟨_, rfl⟩
      have he := eq_empty e.set
      rw [hqe] at he HSPL
      clear hqe
      cases qe with
      | true =>
        go_wp2_with fail
        refine post_is HQ ⟨?_, HB3.out⟩
        rw [HSPL.out]
        rfl
      | false =>
        go_wp2_with fail
        refine post_is HQ ⟨?_, HB3.out⟩
        rw [HSPL.out]
        rfl

set_option maxRecDepth 100000 in
set_option maxHeartbeats 2000000 in
theorem ck1_any (S : Int) (e : Ed) (Ae Ax : Option Addr) (ne ce nx cx b : Nat) (W : World) (hb : W.heap[b]? = some (.cells #[.int .i64 S, .slice Ae ne ce, .slice Ax nx cx] 25 (0, 0))) :
    Calls Tryz.prog 42 #[.agg #[.int .i64 e.fr, .int .i64 e.to, .int .u64 (e.set.w0.toNat : Int), .int .u64 (e.set.w1.toNat : Int), .int .u64 (e.set.w2.toNat : Int), .int .u64 (e.set.w3.toNat : Int), .bool e.free], .pointer (some ⟨b, 0, none⟩)] W (GotBl W (!okEd S e)) := by
  generalize hQ : GotBl W (!okEd S e) = Q
  have HQ := Lib.hid hQ
  have hb0 := bl_alloc (Below.refl W.heap.size W) (.cells #[.int .i64 e.fr, .int .i64 e.to, .int .u64 (e.set.w0.toNat : Int), .int .u64 (e.set.w1.toNat : Int), .int .u64 (e.set.w2.toNat : Int), .int .u64 (e.set.w3.toNat : Int), .bool e.free] 53)
  have k1 := (hb0.block b (Array.getElem?_eq_some_iff.1 hb).1).trans hb
  have hld : ∀ t u, [Value.int .i64 S, .slice Ae ne ce, .slice Ax nx cx][t]? = some u → (W.alloc (.cells #[.int .i64 e.fr, .int .i64 e.to, .int .u64 (e.set.w0.toNat : Int), .int .u64 (e.set.w1.toNat : Int), .int .u64 (e.set.w2.toNat : Int), .int .u64 (e.set.w3.toNat : Int), .bool e.free] 53)).cell? ((⟨b, 0, none⟩ : Addr).add t) = some u := fun t u hu => by
    rw [addr_mk, Nat.zero_add, cell_of_row _ b t _ _ _ k1]
    simpa using hu
  have HLD := Lib.hid hld
  have HB0 := Lib.hid hb0
  have HC := Lib.hid (may_any S e Ae Ax ne ce nx cx (W.alloc (.cells #[.int .i64 e.fr, .int .i64 e.to, .int .u64 (e.set.w0.toNat : Int), .int .u64 (e.set.w1.toNat : Int), .int .u64 (e.set.w2.toNat : Int), .int .u64 (e.set.w3.toNat : Int), .bool e.free] 53)))
  clear hQ hb hb0 k1 hld
  go_enter Tryz.func42, Tryz.ntmps42
  go_wp2_with (refine wpList_load_part 25 3 _ rfl rfl ⟨b, 0, none⟩ rfl [.int .i64 S, .slice Ae ne ce, .slice Ax nx cx] (agg_net _) (sz_net _) rfl HLD.out ?_)
  refine HC.out.mono ?_
  rintro x w2 ⟨rfl, hb2⟩
  have HB2 := Lib.hid (bl_trans HB0.out hb2)
  clear hb2 HC HLD
  go_wp2_with fail
  exact post_is HQ ⟨rfl, HB2.out⟩

set_option maxRecDepth 100000 in
set_option maxHeartbeats 2000000 in
theorem ixed_any (S : Int) (l : List Ed) (A : Option Addr) (n c : Nat) (hn : l.length = n) (hn2 : n ≤ 140737488355328) (Ae Ax : Option Addr) (ne ce nx cx b : Nat) (W : World) (hb : W.heap[b]? = some (.cells #[.int .i64 S, .slice Ae ne ce, .slice Ax nx cx] 25 (0, 0))) (hr : RdE W A l) :
    Calls Tryz.prog 69 #[.slice A n c, .func (.func 42) #[] #[.pointer (some ⟨b, 0, none⟩)]] W (GotIx W n (!l.all (okEd S))) := by
  generalize hQ : GotIx W n (!l.all (okEd S)) = Q
  have HQ := Lib.hid hQ
  have HB := Lib.hid hb
  have HR := Lib.hid hr
  have HN := Lib.hid hn
  clear hQ hb hr hn
  go_enter Tryz.func69, Tryz.ntmps69
  go_wp2_with fail
  go_loopw [8] (fun vi wr => ∃ k : Nat, k ≤ n ∧ vi = .int .i64 (k : Int) ∧ Hid ((l.take k).all (okEd S) = true) ∧ Hid (Below W.heap.size W wr)) (fun vi _ => n - (intOf vi).toNat)
  case atStart => exact ⟨0, Nat.zero_le _, rfl, rfl, Below.refl _ _⟩
  case round =>
    obtain ⟨k, hk, rfl, HA, HBW⟩ := hrel
    by_cases hlt : k < n
    · have hkl : k < l.length := by rw [HN.out]; exact hlt
      obtain ⟨ad, hA, hcs⟩ := (HR.out.below HBW.out) k hkl
      subst hA
      have TK := Lib.hid (show (l.take (k + 1)).all (okEd S) = ((l.take k).all (okEd S) && okEd S l[k]) by rw [List.take_succ_eq_append_getElem hkl, List.all_append]; simp)
      have hmem := List.getElem_mem hkl
      have hbd : okEd S l[k] = false → l.all (okEd S) = false := fun h => by
        rw [Bool.eq_false_iff]
        intro ha
        rw [List.all_eq_true.1 ha _ hmem] at h
        cases h
      generalize l[k] = e at *
      have HBD := Lib.hid hbd
      have HCS := Lib.hid (show ∀ j u, [.int .i64 e.fr, .int .i64 e.to, .int .u64 (e.set.w0.toNat : Int), .int .u64 (e.set.w1.toNat : Int), .int .u64 (e.set.w2.toNat : Int), .int .u64 (e.set.w3.toNat : Int), .bool e.free][j]? = some u → wr.cell? ((ad.add (k * 7)).add j) = some u from hcs)
      have HCON := Lib.hid (ck1_any S e Ae Ax ne ce nx cx b wr ((HBW.out.block b (Array.getElem?_eq_some_iff.1 HB.out).1).trans HB.out))
      clear hkl hmem hbd hcs
      go_wp2_with (refine wpList_load_part 53 7 _ rfl rfl (ad.add (k * 7)) rfl [.int .i64 e.fr, .int .i64 e.to, .int .u64 (e.set.w0.toNat : Int), .int .u64 (e.set.w1.toNat : Int), .int .u64 (e.set.w2.toNat : Int), .int .u64 (e.set.w3.toNat : Int), .bool e.free] (agg_edge _) (sz_edge _) rfl HCS.out ?_)
      refine HCON.out.mono ?_
      rintro x w2 ⟨rfl, hb2⟩
      have HB2 := Lib.hid (bl_trans HBW.out hb2)
      clear hb2 HCON HBW HCS
      obtain ⟨q, hq⟩ : ∃ q, okEd S e = q := ⟨_, rfl⟩
      rw [hq] at TK HBD ⊢
      clear hq
      cases q with
      | true =>
        go_wp2_with fail
        refine ⟨⟨k + 1, by omega, by go_num, ?_, HB2.out⟩, by simp [intOf]; omega⟩
        unfold Hid
        rw [TK.out, HA.out]
        rfl
      | false =>
        go_wp2_with fail
        refine post_is HQ (Or.inl ⟨k, hlt, rfl, ?_, HB2.out⟩)
        rw [HBD.out trivial]
        rfl
    · obtain rfl : k = n := by omega
      have hall : l.all (okEd S) = true := by have := HA.out; rwa [List.take_of_length_le (by rw [HN.out]; omega)] at this
      have HAL := Lib.hid hall
      clear hall
      go_wp2_with fail
      refine post_is HQ (Or.inr ⟨rfl, ?_, HBW.out⟩)
      rw [HAL.out]
      rfl
set_option maxRecDepth 20000 in
theorem cned_any (S : Int) (l : List Ed) (A : Option Addr) (n c : Nat) (hn : l.length = n) (hn2 : n ≤ 140737488355328) (Ae Ax : Option Addr) (ne ce nx cx b : Nat) (W : World) (hb : W.heap[b]? = some (.cells #[.int .i64 S, .slice Ae ne ce, .slice Ax nx cx] 25 (0, 0))) (hr : RdE W A l) :
    Calls Tryz.prog 41 #[.slice A n c, .func (.func 42) #[] #[.pointer (some ⟨b, 0, none⟩)]] W (GotBl W (!l.all (okEd S))) := by
  have HC := Lib.hid (ixed_any S l A n c hn hn2 Ae Ax ne ce nx cx b W hb hr)
  generalize hQ : GotBl W (!l.all (okEd S)) = Q
  have HQ := Lib.hid hQ
  clear hQ hb hr hn
  go_enter Tryz.func41, Tryz.ntmps41
  go_wp2_with fail
  refine HC.out.mono ?_
  rintro e w2 (⟨k, hk, rfl, h2, hb2⟩ | ⟨rfl, h2, hb2⟩)
  · have HB2 := Lib.hid hb2
    have H2 := Lib.hid h2
    have d0 : decide ((0 : Int) ≤ (k : Int)) = true := by simp
    clear hb2 h2 HC
    go_wp2_with fail
    refine post_is HQ ⟨?_, HB2.out⟩
    rw [H2.out]
    rfl
  · have HB2 := Lib.hid hb2
    have H2 := Lib.hid h2
    clear hb2 h2 HC
    go_wp2_with fail
    refine post_is HQ ⟨?_, HB2.out⟩
    rw [H2.out]
    rfl

def GotEr (W : World) (k : Nat) (e : Ending) (W' : World) : Prop := e = .returned (.int .i64 (k : Int)) ∧ Below W.heap.size W W'
set_option maxRecDepth 100000 in
set_option maxHeartbeats 4000000 in
theorem ncheck_any (S : Int) (E : List Ed) (X : List Int) (Ae Ax : Option Addr) (ne ce nx cx : Nat) (hne : E.length = ne) (hnx : X.length = nx) (hce : ne ≤ ce) (hcx : nx ≤ cx) (hm1 : ne ≤ 140737488355328) (hm2 : nx ≤ 140737488355328) (W : World) (hr : RdE W Ae E) (hx : RdW W Ax X) :
    Calls Tryz.prog 25 #[.agg #[.int .i64 S, .slice Ae ne ce, .slice Ax nx cx]] W (GotEr W (checkN S E X)) := by
  generalize hQ : GotEr W (checkN S E X) = Q
  have HQ := Lib.hid hQ
  have b0 := bl_alloc (Below.refl W.heap.size W) (.cells #[.int .i64 S, .slice Ae ne ce, .slice Ax nx cx] 25)
  have k0 := heap_alloc_new W (.cells #[.int .i64 S, .slice Ae ne ce, .slice Ax nx cx] 25)
  have HC1 := Lib.hid (areSt_any S X Ax nx cx hnx hm2 Ae Ax ne ce nx cx (W.alloc (.cells #[.int .i64 S, .slice Ae ne ce, .slice Ax nx cx] 25)) (hx.below b0))
  have B0 := Lib.hid b0
  have K0 := Lib.hid k0
  have HR := Lib.hid hr
  have HN := Lib.hid hne
  have hmf : ∀ (fn : Fn) (first cap : Array Value) (w : World), (Instr.makeFunc fn first cap).run Tryz.prog w = .ok (.func fn first cap) w := fun _ _ _ _ => rfl
  obtain ⟨q1, hq1⟩ : ∃ q, decide ((2048 : Int) < S) = q := ⟨_, rfl⟩
  obtain ⟨q2, hq2⟩ : ∃ q, decide ((8192 : Int) < (ne : Int)) = q := ⟨_, rfl⟩
  obtain ⟨q3, hq3⟩ : ∃ q, decide ((64 : Int) < (nx : Int)) = q := ⟨_, rfl⟩
  obtain ⟨q4, hq4⟩ : ∃ q, decide (S < 1) = q := ⟨_, rfl⟩
  have HK := Lib.hid (show checkN S E X = if (q1 || (q2 || q3)) = true then 5 else if (q4 || (!(X.all (okSt S)) || !(E.all (okEd S)))) = true then 2 else 0 by
    rw [checkN, hne, hnx, ← hq1, ← hq2, ← hq3, ← hq4]
    have e2 : (8192 < ne) = ((8192 : Int) < (ne : Int)) := propext ⟨fun h => by omega, fun h => by omega⟩
    have e3 : (64 < nx) = ((64 : Int) < (nx : Int)) := propext ⟨fun h => by omega, fun h => by omega⟩
    simp only [Bool.or_eq_true, decide_eq_true_iff, Bool.not_eq_true', e2, e3])
  clear hQ hr hx hne hnx b0 k0
  go_enter Tryz.func25, Tryz.ntmps25
  cases q1 with
  | true =>
    go_wp2_with fail
    exact post_is HQ ⟨by rw [HK.out]; rfl, B0.out⟩
  | false =>
    cases q2 with
    | true =>
      go_wp2_with fail
      exact post_is HQ ⟨by rw [HK.out]; rfl, B0.out⟩
    | false =>
      cases q3 with
      | true =>
        go_wp2_with fail
        exact post_is HQ ⟨by rw [HK.out]; rfl, B0.out⟩
      | false =>
        cases q4 with
        | true =>
          go_wp2_with fail
          exact post_is HQ ⟨by rw [HK.out]; rfl, B0.out⟩
        | false =>
          go_wp2_with fail
          refine HC1.out.mono ?_
          rintro x w2 ⟨rfl, hb2⟩
          have HB2 := Lib.hid (bl_trans B0.out hb2)
          have K2 := Lib.hid ((hb2.block W.heap.size (by simp)).trans K0.out)
          have c1 := cell_of_row w2 W.heap.size 1 _ _ _ K2.out
          simp only [List.getElem?_toArray, List.getElem?_cons_succ, List.getElem?_cons_zero] at c1
          have HC2 := Lib.hid (cned_any S E Ae ne ce HN.out hm1 Ae Ax ne ce nx cx W.heap.size w2 K2.out (HR.out.below HB2.out))
          clear hb2 HC1 K0
          obtain ⟨q5, hq5⟩ : ∃ q, X.all (okSt S) = q := ⟨_, rfl⟩
          rw [hq5] at HK ⊢
          clear hq5
          cases q5 with
          | false =>
            go_wp2_with fail
            exact post_is HQ ⟨by rw [HK.out]; rfl, HB2.out⟩
          | true =>
            go_wp2_with fail
            refine HC2.out.mono ?_
            rintro x w3 ⟨rfl, hb3⟩
            have HB3 := Lib.hid (bl_trans HB2.out hb3)
            clear hb3 HC2 c1
            obtain ⟨q6, hq6⟩ : ∃ q, E.all (okEd S) = q := ⟨_, rfl⟩
            rw [hq6] at HK ⊢
            clear hq6
            cases q6 with
            | false =>
              go_wp2_with fail
              exact post_is HQ ⟨by rw [HK.out]; rfl, HB3.out⟩
            | true =>
              go_wp2_with fail
              exact post_is HQ ⟨by rw [HK.out]; rfl, HB3.out⟩

end Go.Proofs.YtcgfogdfcdndgaaGreatDoor
