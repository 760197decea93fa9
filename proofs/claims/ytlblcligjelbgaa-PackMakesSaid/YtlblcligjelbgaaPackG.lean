/- The statements' helpers 'one', 'works' (layer 3): contracts over the translated program. -/
import Derived.Test.YtlblcligjelbgaaPackF
set_option linter.unusedVariables false
namespace Go.Proofs.Ytlblcligjelbgaa
open Go.RowKit

def twelve : List UInt8 := [73, 80, 16, 0, 0, 0, 7, 1, 1, 97, 4, 0]
def oneS : List Sec := [(1, [97]), (4, [])]
def oneB : List UInt8 := sealE twelve
theorem one_pack : packE 7 oneS = (oneB, 0) := by
  have hb : bodyOf oneS = [1, 1, 97, 4, 0] := by
    unfold bodyOf oneS secB
    simp only [List.map_cons, List.map_nil, List.length_cons, List.length_nil, List.flatten_cons, List.flatten_nil]
    rw [digs_small (by omega), digs_small (by omega)]
    rfl
  unfold packE
  rw [hb, if_neg (by decide), if_neg (by decide)]
  rfl
theorem one_len : oneB.length = 16 := rfl
theorem one_size : sizeE oneB = (16, 0) := by have := size_cut one_pack []; rwa [List.append_nil, one_len] at this
theorem one_unpack : unpackE oneB = (7, oneS, 0) := unpack_pack one_pack
theorem one_cut : unpackE (oneB.take 15) = (0, [], 3) := unpack_cut one_pack (by rw [one_len]; omega)
theorem one_more : unpackE (oneB ++ [0]) = (0, [], 4) := unpack_more one_pack (by simp)
def oneX : List UInt8 := oneB.set 15 (oneB[15] ^^^ 1)
theorem one_spoilt : unpackE oneX = (0, [], 30) := by decide +kernel
theorem one_sum : (ofE twelve).toNat = 1018105276 := by decide +kernel
theorem one_last : oneX.drop 12 = [188, 13, 175, 61] := by decide +kernel
theorem one_15 : oneB[15] = 60 := by decide +kernel


theorem eq_is {A A' : Option Addr} {n c n' c' : Nat} {l l' : List UInt8} {w : World} {b : Bool} (hl : l.length = n) (hl' : l'.length = n') (hr : Rd w A l) (hr' : Rd w A' l') (hn : n ≤ maxLen) (hn' : n' ≤ maxLen) (h : decide (l = l') = b) :
    Calls Try.prog 16 #[.slice A n c, .slice A' n' c'] w (GotBool w b) := h ▸ eq_any A A' n c n' c' l l' w hl hl' hr hr' hn hn'
theorem pack_is {kind : Int} {A : Option Addr} {n c : Nat} {ss : List Sec} {w : World} {b : List UInt8} {er : Nat} (hl : ss.length = n) (hr : RdS w A ss) (hn : n ≤ maxLen) (hd : ∀ s ∈ ss, s.2.length ≤ 150000000000000) (h : packE kind ss = (b, er)) :
    Calls Try.prog 12 #[.int .i64 kind, .slice A n c] w (GotBytesE w b er) := by
  have h' := pack_any kind A n c ss w hl hr hn hd
  rw [h] at h'
  exact h'
theorem size_is {A : Option Addr} {n c : Nat} {l : List UInt8} {w : World} {z er : Nat} (hl : l.length = n) (hr : Rd w A l) (hnc : n ≤ c) (hc : c ≤ maxLen) (h : sizeE l = (z, er)) :
    Calls Try.prog 21 #[.slice A n c] w (GotSz w z er) := by
  have h' := size_any A n c l w hl hr hnc hc
  rw [h] at h'
  exact h'
theorem unpack_is {A : Option Addr} {n c : Nat} {l : List UInt8} {w : World} {k er : Nat} {ss : List Sec} (hl : l.length = n) (hr : Rd w A l) (hnc : n ≤ c) (hc : c ≤ maxLen) (h : unpackE l = (k, ss, er)) :
    Calls Try.prog 23 #[.slice A n c] w (GotPack w k ss er) := by
  have h' := unpack_any A n c l w hl hr hnc hc
  rw [h] at h'
  exact h'
theorem of_is {A : Option Addr} {n c : Nat} {l : List UInt8} {w : World} {x : Nat} (hl : l.length = n) (hr : Rd w A l) (hn : n ≤ maxLen) (h : (ofE l).toNat = x) :
    Calls Try.prog 38 #[.slice A n c] w fun e w' => e = .returned (.int .u32 (x : Int)) ∧ Below w.heap.size w w' := by
  have h' := of_any A n c l w hl hr hn
  subst h
  exact h'

set_option maxHeartbeats 1000000 in
set_option maxRecDepth 20000 in
theorem one_any (w : World) : Calls Try.prog 37 #[] w (GotBytes w oneB) := by
  go_enter Try.func37, Try.ntmps37
  go_wp2_with fail
  have hr : RdS ((w.alloc (.cells #[Value.int .u8 97] 5)).alloc (.cells #[Value.int .i64 1, Value.slice (some ⟨w.heap.size, 0, none⟩) 1 1, Value.int .i64 4, Value.slice none 0 0] 41)) (some ⟨w.heap.size + 1, 0, none⟩) oneS := fun _ => by
    refine ⟨_, rfl, fun j hj => ?_⟩
    have hj2 : j = 0 ∨ j = 1 := by simp [oneS] at hj; omega
    rcases hj2 with rfl | rfl
    · refine ⟨by simp [oneS, Addr.add], some ⟨w.heap.size, 0, none⟩, 1, by simp [oneS, Addr.add], by simp [oneS], by simp [maxLen], ?_⟩
      exact (Rd.one w _ 97 rfl).alloc _
    · exact ⟨by simp [oneS, Addr.add], none, 0, by simp [oneS, Addr.add], by simp [oneS], by simp [maxLen], Rd.nil _ _⟩
  refine (pack_is (n := 2) (ss := oneS) rfl hr (by simp [maxLen]) (by simp [oneS]) one_pack).mono ?_
  rintro e w2 ⟨v, rfl, ho, hb⟩
  go_wp2_with fail
  go_ret
  have hB := bl_alloc (bl_alloc (Below.refl w.heap.size w) (.cells #[Value.int .u8 97] 5)) (.cells #[Value.int .i64 1, Value.slice (some ⟨w.heap.size, 0, none⟩) 1 1, Value.int .i64 4, Value.slice none 0 0] 41)
  exact ⟨v, rfl, ho.more hB.size, bl_trans hB hb⟩

theorem OwnS.head {w : World} {base : Nat} {A : Option Addr} {n c : Nat} {rs : List Row} (h : OwnS w base (.slice A n c) rs) (hn : 0 < n) : ∃ g, A = some ⟨g, 0, none⟩ ∧ base ≤ g ∧ g < w.heap.size := by
  rcases h.row.2 with ⟨h1, h2⟩ | ⟨g, cap, cur, h1, h2, h3, _⟩
  · cases h1; omega
  · cases h1
    exact ⟨g, rfl, h2, (h.lt g rfl).2⟩
theorem one_set : oneB.set 15 61 = oneX := by decide +kernel
theorem one_take : oneB.take 12 = twelve := by decide +kernel

set_option maxHeartbeats 4000000 in
set_option maxRecDepth 20000 in
theorem works_any (w : World) : Calls Try.prog 19 #[] w (GotBool w true) := by
  have hx1 : bits .xor .u8 (60 : Int) 1 = 61 := by decide +kernel
  have kc := fun (w : World) (C : Array Value) (n c : Nat) => Lib.run_convert_bytes_const (P := Try.prog) w 24 5 C n c Try.underlying24 Try.underlying5
  go_enter Try.func19, Try.ntmps19
  go_wp2_with fail
  refine (one_any w).mono ?_
  rintro e w1 ⟨v1, rfl, ho1, hb1⟩
  obtain ⟨A, n, c, rfl, HL, hnc, hc, _⟩ := ho1.form
  have hn : n = 16 := HL.out.symm.trans one_len
  subst hn
  obtain ⟨_, g, rfl, hg0, hg1, _, _⟩ := ho1.head (by omega)
  unfold maxLen at hc
  have hrw : ∀ W : World, Below w1.heap.size w1 W → Rd W (some ⟨g, 0, none⟩) oneB := fun W h => (ho1.below h).rd
  have HRW := Lib.hid hrw
  clear hrw
  go_wp2_with fail
  have hA : Below w1.heap.size w1 (w1.alloc (.cells (twelve.map bv).toArray 5)) := bl_alloc (Below.refl _ _) _
  refine (eq_is (b := true) (n := 12) (n' := 12) (l := twelve) (l' := twelve) rfl rfl (one_take ▸ (HRW.out _ hA).take 12) (Rd.litF w1 twelve (0, 0)) (by simp [maxLen]) (by simp [maxLen]) (by simp)).mono ?_
  rintro e w2 ⟨rfl, hb2⟩
  have hB2 := bl_trans hA hb2
  clear hA hb2
  go_wp2_with fail
  refine (of_is (n := 12) (l := twelve) rfl (one_take ▸ (HRW.out _ hB2).take 12) (by simp [maxLen]) one_sum).mono ?_
  rintro e w3 ⟨rfl, hb3⟩
  have hB3 := bl_trans hB2 hb3
  clear hB2 hb3
  go_wp2_with fail
  refine (size_is one_len (HRW.out _ hB3) hnc (by simp only [maxLen]; omega) one_size).mono ?_
  rintro e w4 ⟨rfl, hb4⟩
  have hB4 := bl_trans hB3 hb4
  clear hB3 hb4
  go_wp2_with fail
  refine (unpack_is one_len (HRW.out _ hB4) hnc (by simp only [maxLen]; omega) one_unpack).mono ?_
  rintro e w5 ⟨vs, rs, rfl, hS, HR, hb5⟩
  obtain ⟨As, ns, cs, rfl, HLs, HLs', hncs, hcs, _⟩ := hS.rd
  have hns : ns = 2 := by rw [← HLs.out, HR.out]; rfl
  subst hns
  obtain ⟨gs, rfl, hgs, hgs'⟩ := hS.head (by omega)
  have hB5 := bl_trans hB4 hb5
  have hs4 := hB4.size
  clear hB4 hb5
  go_wp2_with fail
  refine (unpack_is (n := 15) (l := oneB.take 15) rfl ((HRW.out _ hB5).take 15) (by omega) (by simp only [maxLen]; omega) one_cut).mono ?_
  rintro e w6 ⟨v6, rs6, rfl, _, _, hb6⟩
  have hS6 := hS.below hb6
  have hB6 := bl_trans hB5 hb6
  clear hB5 hb6 hS
  go_wp2_with fail
  refine (copy_any _ 16 c oneB _ one_len (HRW.out _ hB6) (by omega)).mono ?_
  rintro e w7 ⟨v7, rfl, ho7, hb7⟩
  have hS7 := hS6.below hb7
  have hB7 := bl_trans hB6 hb7
  have hs6 := hB6.size
  have hs7 := hb7.size
  clear hb7
  go_wp2_with (at_builtin; refine wpList_append_bytes _ rfl _ _ rfl w6.heap.size _ oneB rfl (ho7.alloc _) _ 1 1 [0] rfl rfl (Rd.one _ _ _ rfl) (by simp [one_len]) (by simp; omega) ?_)
  intro v8 w8 ho8 hg8 _
  obtain ⟨A8, n8, c8, rfl, HL8, hnc8, hc8, hr8⟩ := ho8.form
  have hB8 : Below w1.heap.size w1 w8 := bl_grown (bl_alloc hB7 _) hg8 (fun k hk => by have := (ho7.lt k hk).1; omega)
  have hS8 : OwnS w8 w4.heap.size (.slice (some ⟨gs, 0, none⟩) 2 cs) rs := by
    refine (hS7.below (bl_alloc (Below.refl _ _) _)).kept hg8 ?_ ?_
    · exact types_ne' ho7 hS7.row
    · intro r hr
      exact own_apart (hS6.data r hr) ho7
  have hb8 : Below w1.heap.size w1 w8 := hB8
  clear hS6 hS7 ho7 hg8 hB7 hB6
  go_wp2_with fail
  refine (unpack_is HL8.out hr8 hnc8 hc8 one_more).mono ?_
  rintro e w9 ⟨v9, rs9, rfl, _, _, hb9⟩
  have hS9 := hS8.below hb9
  have hB9 := bl_trans hB8 hb9
  have ho9 := ho1.below hB9
  have h15 : w9.cell? ⟨g, 15, none⟩ = some (.int .u8 60) := by
    have h := ho9.cellAt (k := 15) (by rw [one_len]; omega)
    rw [one_15] at h
    exact h
  have hf15 := ho9.frozenAt 15
  obtain ⟨hst, hgst⟩ := ho9.stored 15 61 (.int .u8 61) rfl
  rw [one_set] at hst
  clear hb9 hB8 hb8 ho8 hr8 hS8
  go_wp2_with fail
  have hB10 : Below w.heap.size w (w9.setCell ⟨g, 15, none⟩ (.int .u8 61)) := bl_grown (bl_trans hb1 hB9) hgst (fun k hk => by cases hk; exact hg0)
  have hS10 := hS9.far hgst (by omega)
  obtain ⟨A12, hcut12, hr12⟩ := cut_from (some ⟨g, 0, none⟩) 16 c 12 oneX _ rfl hst.rd (by omega) hnc
  rw [one_last] at hr12
  have hcut12' : ∀ W : World, (Instr.slice 24 (.slice (some ⟨g, 0, none⟩) 16 c) (some (.int .i64 12)) none none).run Try.prog W = .ok (.slice A12 4 (c - 12)) W := hcut12
  clear hcut12
  generalize hW : w9.setCell ⟨g, 15, none⟩ (.int .u8 61) = W10 at *
  clear hW h15 hf15 hgst hS9 hB9 ho9
  refine (unpack_is rfl hst.rd hnc (by simp only [maxLen]; omega) one_spoilt).mono ?_
  rintro e w11 ⟨v11, rs11, rfl, _, _, hb11⟩
  have hr13 := hr12.below hb11
  have hS11 := hS10.below hb11
  have hB11 := bl_trans hB10 hb11
  clear hB10 hb11 hS10 hst hr12
  go_wp2_with fail
  refine (eq_is (b := true) (n := 4) (n' := 4) (l := [188, 13, 175, 61]) (l' := [188, 13, 175, 61]) rfl rfl (hr13.alloc _) (Rd.litF w11 [188, 13, 175, 61] (0, 0)) (by simp [maxLen]) (by simp [maxLen]) (by simp)).mono ?_
  rintro e w12 ⟨rfl, hb12⟩
  have hS12 := (hS11.below (bl_alloc (Below.refl _ _) (.cells (([188, 13, 175, 61] : List UInt8).map bv).toArray 5))).below hb12
  have hB12 := bl_trans (bl_alloc hB11 (.cells (([188, 13, 175, 61] : List UInt8).map bv).toArray 5)) hb12
  obtain ⟨A', n', c', e', _, _, _, _, hrS⟩ := hS12.rd
  cases e'
  rw [HR.out] at hrS
  obtain ⟨ad, Ad, nd, cd, e', c1, c2, HLd, hd1, hd2, hrd⟩ := hrS.at (k := 0) (by decide)
  cases e'
  have hnd : nd = 1 := HLd.out.symm
  subst hnd
  have c1' : w12.cell? ⟨gs, 0, none⟩ = some (.int .i64 1) := by simpa [Addr.add, oneS] using c1
  have c2' : w12.cell? ⟨gs, 1, none⟩ = some (.slice Ad 1 cd) := by simpa [Addr.add] using c2
  clear c1 c2 hrS hS11 hB11 hb12 hr13 hcut12'
  go_wp2_with fail
  refine (eq_is (b := true) (n := 1) (n' := 1) (l := [97]) (l' := [97]) rfl rfl (hrd.alloc _) (Rd.one w12 _ 97 rfl) (by simp [maxLen]) (by simp [maxLen]) (by simp)).mono ?_
  rintro e w13 ⟨rfl, hb13⟩
  go_wp2_with fail
  go_ret
  exact ⟨rfl, bl_trans (bl_alloc hB12 _) hb13⟩

end Go.Proofs.Ytlblcligjelbgaa
