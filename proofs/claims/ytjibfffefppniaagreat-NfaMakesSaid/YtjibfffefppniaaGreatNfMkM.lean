/- The law on Of: the walk. -/
import Derived.Test.YtjibfffefppniaaGreatRsEM
import Derived.Test.YtjibfffefppniaaGreatRsBM
import Derived.Test.YtjibfffefppniaaGreatNfApM
set_option linter.unusedVariables false
set_option linter.unusedSimpArgs false
namespace Go.Proofs.YtjibfffefppniaaGreat
open Go.RowKit
attribute [local go_sem] Oper.semAt_some

def oE (Ls : List (List RN)) : List Ed := if ofN Ls = 0 then netE 1 Ls else []
def oX (Ls : List (List RN)) : List Nat := if ofN Ls = 0 then netX 1 Ls else []
def oS (Ls : List (List RN)) : Nat := if ofN Ls = 0 then netS Ls else 0
theorem o_len (Ls : List (List RN)) : (oE Ls).length ≤ 10000 ∧ (oX Ls).length ≤ 64 := by
  unfold oE oX
  by_cases h : ofN Ls = 0
  · rw [if_pos h, if_pos h]
    have h1 := nete_len Ls 1
    have h2 := netx_len Ls 1
    have h3 : Ls.length ≤ 64 ∧ netS Ls ≤ 2048 := by
      unfold ofN at h
      split at h
      · omega
      · split at h
        · omega
        · split at h
          · omega
          · omega
    unfold netS at h3
    omega
  · simp [if_neg h]
/-- What Of answers, as a net that reads and whose edges are its own. -/
theorem of_own {W W' : World} {Ls : List (List RN)} {e : Ending} (h : GotOf W Ls e W') : ∃ A n c A2 n2 c2, e = .returned (.tuple #[.agg #[.int .i64 ((oS Ls : Nat) : Int), .slice A n c, .slice A2 n2 c2], .int .i64 ((ofN Ls : Nat) : Int)]) ∧
    OwnE W' W.heap.size (.slice A n c) (oE Ls) ∧ OwnI W' W.heap.size (.slice A2 n2 c2) (oX Ls) ∧ RdE W' A (oE Ls) ∧ RdW W' A2 (zl (oX Ls)) ∧ Hid ((oE Ls).length = n) ∧ Hid ((zl (oX Ls)).length = n2) ∧ n ≤ c ∧ n2 ≤ c2 ∧ n ≤ 10000 ∧ n2 ≤ 64 ∧ Below W.heap.size W W' := by
  obtain ⟨S, A, n, c, A2, n2, c2, rfl, y1, y2, rfl, y4⟩ := h
  obtain ⟨A', n', c', e1, z1, z2, z3, z4⟩ := y1.form
  injection e1 with e1 e2 e3
  subst e1 e2 e3
  obtain ⟨A', n', c', e1, x1, x2, x3, x4⟩ := y2.form
  injection e1 with e1 e2 e3
  subst e1 e2 e3
  have h1 := (o_len Ls).1
  have h2 := (o_len Ls).2
  have h3 : (oE Ls).length = n := z1.out
  have h4 : (oX Ls).length = n2 := x1.out
  exact ⟨A, n, c, A2, n2, c2, rfl, y1, y2, z4, rdw_z x4, z1, by unfold zl; rw [Hid, List.length_map]; exact h4, z2, x2, by omega, by omega, y4⟩
theorem rdr_src {w : World} {A : Option Addr} {l : List RN} (h : RdR w A l) : (cellsN l = [] ∧ A = none) ∨ ∃ ad, A = some ad ∧ ∀ j u, (cellsN l)[j]? = some u → w.cell? (ad.add j) = some u := by
  cases A with
  | none =>
    left
    cases l with
    | nil => exact ⟨rfl, rfl⟩
    | cons x l => obtain ⟨ad, e, _⟩ := h 0 (by simp); cases e
  | some ad =>
    refine Or.inr ⟨ad, rfl, fun j u hu => ?_⟩
    have hj := (List.getElem?_eq_some_iff.1 hu).1
    rw [cellsN_len] at hj
    have hi : j / 7 < l.length := by omega
    obtain ⟨ad', e, hc⟩ := h (j / 7) hi
    obtain rfl := Option.some.inj e
    have hm : j % 7 < (cellsR l[j / 7]).length := by show j % 7 < 7; omega
    have h2 := cellsN_get l (j / 7) hi (j % 7) _ (List.getElem?_eq_getElem hm)
    rw [show j / 7 * 7 + j % 7 = j by omega, hu] at h2
    have h3 := hc (j % 7) _ (List.getElem?_eq_getElem hm)
    rw [Addr.add_add, show j / 7 * 7 + j % 7 = j by omega] at h3
    rw [h3, ← h2]
theorem cellsN_ones (l : List RN) : ∀ u ∈ cellsN l, u.oneCell' = true := fun u hu => by
  obtain ⟨x, _, hx⟩ := List.mem_flatMap.1 hu
  simp only [cellsR, List.mem_cons, List.not_mem_nil, or_false] at hx
  rcases hx with rfl | rfl | rfl | rfl | rfl | rfl | rfl <;> rfl
theorem built_rex (B : Option Addr) (m d : Nat) : Tryz.prog.built 25 [(0, Value.slice B m d)] = some #[.slice B m d] := by kernel_rfl
theorem agg_rexk : ∀ w, (isAgg 25).run Tryz.prog w = .ok true w := agg_rex'
theorem sz_rexk : ∀ w, (sizeOf 25).run Tryz.prog w = .ok 1 w := sz_rex'
theorem agg_netk : ∀ w, (isAgg 29).run Tryz.prog w = .ok true w := agg_net
theorem one_part {w : World} {p : Addr} {v : Value} (h : w.cell? p = some v) : ∀ j u, [v][j]? = some u → w.cell? (p.add j) = some u := fun j u hu => by
  match j, hu with
  | 0, hu =>
    simp at hu
    subst hu
    rw [show p.add 0 = p from by cases p; rfl]
    exact h
set_option maxRecDepth 100000 in
set_option maxHeartbeats 32000000 in
theorem makes_walk (A : Option Addr) (n c : Nat) (Ls : List (List RN)) (W : World) (hn : Ls.length = n) (hc : n ≤ c) (hb : c * 24 ≤ 140737488351232) (hr : RdX W A Ls) (hlm : ∀ l ∈ Ls, l.length * 56 ≤ 140737488351232) :
    Calls Tryz.prog 3 #[.slice A n c] W (Yes W) := by
  generalize hQ : Yes W = Q
  have HQ := Lib.hid hQ
  have HN := Lib.hid hn
  have HR := Lib.hid hr
  have HLM := Lib.hid hlm
  have hnc : n * 24 ≤ 140737488351232 := by omega
  clear hQ hn hr hlm
  go_enter Tryz.func3, Tryz.ntmps3
  go_wp2_with fail
  go_loopw [3, 4] (fun v3 vi wr => ∃ (k : Nat) (A1 : Option Addr) (n1 c1 : Nat), k ≤ n ∧ v3 = .slice A1 n1 c1 ∧ vi = .int .i64 (k : Int) ∧ Hid (OwnX wr W.heap.size (.slice A1 n1 c1) (Ls.take k)) ∧ Hid (Below W.heap.size W wr)) (fun _ vi _ => n - (intOf vi).toNat)
  case atStart => exact ⟨0, none, 0, 0, Nat.zero_le _, rfl, rfl, OwnX.nil _ _, Below.refl _ _⟩
  case round =>
    obtain ⟨k, A1, n1, c1, hk, rfl, rfl, OX, BW⟩ := hrel
    by_cases hlt : k < n
    · have h2 : k < Ls.length := by rw [HN.out]; exact hlt
      obtain ⟨ad, B, m, d, hA, hc0, hm, hmd, hrr⟩ := HR.out k h2
      subst hA
      have qx : wr.cell? (ad.add k) = some (.slice B m d) := (BW.out.cell (World.block_lt_of_cell? W _ hc0)).trans hc0
      have HSRC := Lib.hid (rdr_src (hrr.below BW.out))
      have HTK := Lib.hid (show Ls.take (k + 1) = Ls.take k ++ [Ls[k]] from List.take_succ_eq_append_getElem h2)
      have HTL := Lib.hid (show (Ls.take k).length = k from by rw [List.length_take]; omega)
      have hm56 : m * 56 ≤ 140737488351232 := by rw [← hm]; exact HLM.out _ (List.getElem_mem h2)
      have HM := Lib.hid hm
      clear hm hc0 hrr hmd
      generalize Ls[k] = l at *
      generalize Ls.take k = P at *
      obtain ⟨i0, hi, hz0, hz1, hz2⟩ := info_parts info_rex
      obtain ⟨j0, hj, hj0, hj1, hj2⟩ := info_parts info_rn
      have hkn : (k : Int) < (n : Int) := by omega
      have hk6 := HTL.out
      go_upto_region 5 with fail
      go_wp2_with (first
        | (at_builtin; refine wpList_append_rowsN _ rfl _ _ 23 rfl W.heap.size 54 j0 (aggR ⟨0, 0, 0, ⟨0, 0, 0, 0⟩⟩) 7 56 Tryz.underlying23 hj hj0 hj1 hj2 rfl (by decide) (.slice none 0 0) 0 [] rfl (World.ownsRow_nil _ _ _ _) B m d (cellsN l) rfl (by rw [cellsN_len, HM.out]) HSRC.out (cellsN_ones l) (by simp only [maxLen]; omega) (by omega) BW.out.size ?_
           intro v8 w8 ho8 hg8 hat8
           have O8 := show OwnR w8 W.heap.size v8 l from by unfold OwnR; rw [HM.out]; rw [Nat.zero_add, List.nil_append] at ho8; exact ho8
           have B8 := show Below wr.heap.size wr w8 from bl_grown (Below.refl wr.heap.size wr) hg8 (fun i e => by cases e)
           obtain ⟨B2, m2, d2, rfl, hl8, hmd8, hdm8, hr8⟩ := OwnR.shape O8
           have bu8 := built_rex B2 m2 d2
           have bz := bl_alloc (Below.refl w8.heap.size w8) (.cells #[.slice B2 m2 d2] 25)
           have ONE := Lib.hid (one_row w8 (.slice B2 m2 d2) 25)
           have OXZ := (OX.out.below B8).below bz
           have ORZ := Lib.hid (O8.later bz)
           have BZ := Lib.hid (bl_trans (bl_trans BW.out B8) bz)
           obtain ⟨vals, hv1, hv2, hv3⟩ := OXZ
           have HV1 := Lib.hid hv1
           have HV2 := Lib.hid hv2
           have HV3 := Lib.hid hv3
           clear ho8 hg8 hat8 O8 B8 bz hv1 hv2 hv3 hr8)
        | (at_builtin; refine wpList_append_lies _ rfl _ _ 22 rfl W.heap.size 25 i0 (.agg #[.slice none 0 0]) 1 24 Tryz.underlying22 hi hz0 hz1 hz2 rfl (by decide) (.slice A1 n1 c1) P.length vals rfl HV1.out ⟨w8.heap.size, 0, none⟩ 1 1 [.slice B2 m2 d2] rfl rfl ONE.out (by simp [Value.oneCell']) (by omega) (by simp only [maxLen]; omega) (by omega) BZ.out.size _ rfl ?_; intro g3 c3 w3 ho3 hg3 hat3 hlt3))
      have hnr : ∀ (x : Value) (q : List RN), OwnR (w8.alloc (.cells #[.slice B2 m2 d2] 25)) W.heap.size x q → OwnR w3 W.heap.size x q := fun x q hq => by
        refine World.ownsRow.kept hq hg3 ?_
        cases hx : x.ownBlock with
        | none => exact Or.inl rfl
        | some j => exact Or.inr fun e => rows_ne (by decide) hq HV1.out j hx e.symm
      refine ⟨⟨k + 1, some ⟨g3, 0, none⟩, k + 1, c3, by omega, rfl, by go_num, ?_, bl_grown BZ.out hg3 (fun i e => (World.ownsRow.lt HV1.out i e).1)⟩, by simp [intOf]; omega⟩
      rw [HTK.out]
      refine ⟨vals ++ [.slice B2 m2 d2], ?_, by rw [List.length_append, List.length_append, HV2.out]; rfl, fun i hi => ?_⟩
      · have h := ho3
        rw [List.length_append, List.length_singleton]
        rw [hk6] at h ⊢
        exact h
      · by_cases hik : i < P.length
        · obtain ⟨B', m', d', y1, y2, y3, y4⟩ := HV3.out i hik
          refine ⟨B', m', d', by rw [List.getElem?_append_left (by rw [HV2.out]; exact hik)]; exact y1, by rw [List.getElem_append_left hik]; exact y2, y3, ?_⟩
          rw [List.getElem_append_left hik]
          exact hnr _ _ y4
        · obtain rfl : i = P.length := by rw [List.length_append, List.length_singleton] at hi; omega
          refine ⟨B2, m2, d2, by rw [List.getElem?_append_right (by rw [HV2.out]; exact Nat.le_refl _), HV2.out, Nat.sub_self]; rfl, by simp; exact hl8.out, hmd8, ?_⟩
          simp only [List.getElem_append_right (Nat.le_refl _), Nat.sub_self, List.getElem_cons_zero]
          exact hnr _ _ ORZ.out
    · obtain rfl : k = n := by omega
      rw [show Ls.take k = Ls from List.take_of_length_le (by rw [HN.out]; exact Nat.le_refl _)] at OX
      obtain ⟨A1', n1', c1', e1, hl1, hnc1, hx1⟩ := OX.out.rdx
      injection e1 with e1 e2 e3
      subst e1 e2 e3
      obtain rfl : n1 = k := by rw [← hl1]; exact HN.out
      have X1 := Lib.hid hx1
      have X0 := Lib.hid (HR.out.below BW.out)
      clear hx1 hl1 OX HR
      obtain ⟨w1, hw1⟩ : ∃ x, x = wr := ⟨_, rfl⟩
      subst hw1
      have HC := Lib.hid (of_all Ls A1 n1 c1 HN.out (by omega) w1 X1.out)
      go_wp2_with fail
      refine HC.out.mono ?_
      rintro e w2 he
      obtain ⟨Ax, nx, cx, Bx, mx, dx, rfl, hoe, hoi, p1, p2, p3, p4, p5, p6, p7, p8, hb⟩ := of_own he
      have HXB := Lib.hid (fun j (hj : (Value.slice Ax nx cx).ownBlock = some j) => World.ownsRow.lt hoe j hj)
      generalize hs : oS Ls = s at *
      have HS := Lib.hid hs
      clear he HC hs
      have bx := bl_alloc (Below.refl w2.heap.size w2) (.cells #[.int .i64 (s : Int), .slice Ax nx cx, .slice Bx mx dx] 29)
      have NXB := Lib.hid (show NetB W w2.heap.size (s : Int) (oE Ls) (zl (oX Ls)) Ax Bx nx cx mx dx (w2.alloc (.cells #[.int .i64 (s : Int), .slice Ax nx cx, .slice Bx mx dx] 29)) from
        ⟨heap_alloc_new w2 _, p1.below bx, p2.below bx, bl_trans (bl_trans BW.out hb) bx, p3.out, p4.out, p5, p6, by omega, by omega⟩)
      have OE1 := Lib.hid (show OwnE (w2.alloc (.cells #[.int .i64 (s : Int), .slice Ax nx cx, .slice Bx mx dx] 29)) w1.heap.size (.slice Ax nx cx) (oE Ls) from World.ownsRow.kept hoe (grown_of_below bx none) (by cases (Value.slice Ax nx cx).ownBlock <;> simp))
      have B1 := Lib.hid (bl_trans hb bx)
      have X02 := Lib.hid (X0.out.below B1.out)
      have HWS := Lib.hid BW.out.size
      clear hoe hoi p1 p2 p5 p6 hb bx
      go_upto_region 7 with fail
      generalize hwa : w2.alloc (.cells #[.int .i64 (s : Int), .slice Ax nx cx, .slice Bx mx dx] 29) = w3 at *
      have HG5 := Lib.hid (show w2.heap.size < w3.heap.size from by rw [← hwa, World.size_alloc]; exact Nat.lt_succ_self _)
      clear hwa
      generalize w2.heap.size = g5 at *
      have HC := Lib.hid (rof_all Ls A n1 c HN.out (by omega) w3 X02.out (fun l hl => by have := HLM.out l hl; omega))
      go_wp2_with fail
      refine HC.out.mono ?_
      rintro e w4 he
      obtain ⟨Ay, ny, cy, By, my, dy, rfl, hoe, hoi, q1, q2, q3, q4, q5, q6, q7, q8, hb⟩ := of_own he
      rw [HS.out]
      obtain rfl : nx = ny := by rw [← p3.out]; exact q3.out
      obtain rfl : mx = my := by rw [← p4.out]; exact q4.out
      clear he HC
      have bx := bl_alloc (Below.refl w4.heap.size w4) (.cells #[.int .i64 (s : Int), .slice Ay nx cy, .slice By mx dy] 29)
      have NYB := Lib.hid (show NetB W w4.heap.size (s : Int) (oE Ls) (zl (oX Ls)) Ay By nx cy mx dy (w4.alloc (.cells #[.int .i64 (s : Int), .slice Ay nx cy, .slice By mx dy] 29)) from
        ⟨heap_alloc_new w4 _, q1.below bx, q2.below bx, bl_trans (bl_trans NXB.out.low hb) bx, q3.out, q4.out, q5, q6, by omega, by omega⟩)
      have OYE := Lib.hid (show OwnE (w4.alloc (.cells #[.int .i64 (s : Int), .slice Ay nx cy, .slice By mx dy] 29)) w3.heap.size (.slice Ay nx cy) (oE Ls) from World.ownsRow.kept hoe (grown_of_below bx none) (by cases (Value.slice Ay nx cy).ownBlock <;> simp))
      have OYI := Lib.hid (show OwnI (w4.alloc (.cells #[.int .i64 (s : Int), .slice Ay nx cy, .slice By mx dy] 29)) w3.heap.size (.slice By mx dy) (oX Ls) from World.ownsRow.kept hoi (grown_of_below bx none) (by cases (Value.slice By mx dy).ownBlock <;> simp))
      have B2 := bl_trans hb bx
      have NX2 := Lib.hid (NXB.out.then B2)
      have OE2 := Lib.hid (show OwnE (w4.alloc (.cells #[.int .i64 (s : Int), .slice Ay nx cy, .slice By mx dy] 29)) w1.heap.size (.slice Ax nx cx) (oE Ls) from World.ownsRow.kept OE1.out (grown_of_below B2 none) (by cases (Value.slice Ax nx cx).ownBlock <;> simp))
      have HBR := Lib.hid (bl_trans B1.out B2)
      have HG7 := Lib.hid (show w3.heap.size ≤ w4.heap.size from hb.size)
      clear hoe hoi q1 q2 q5 q6 hb bx B2 X02 NXB OE1 B1
      go_upto_region 8 with fail
      generalize w4.alloc (.cells #[.int .i64 (s : Int), .slice Ay nx cy, .slice By mx dy] 29) = w5 at *
      generalize w4.heap.size = g7 at *
      have ue : (((ofN Ls : Nat) : Int) != ((ofN Ls : Nat) : Int)) = false := by simp
      obtain ⟨kc, hkc⟩ : ∃ k, checkN (s : Int) (oE Ls) (zl (oX Ls)) = k := ⟨_, rfl⟩
      have HKC := Lib.hid hkc
      have uk : ((kc : Int) != (kc : Int)) = false := by simp
      clear hkc
      generalize ofN Ls = er at *
      go_wp2_with fail
      refine wp_region_held_drew (S := fun W' => W'.heap[g5]? = some (.cells #[.int .i64 (s : Int), .slice Ax nx cx, .slice Bx mx dx] 29 (0, 0)) ∧ W'.heap[g7]? = some (.cells #[.int .i64 (s : Int), .slice Ay nx cy, .slice By mx dy] 29 (0, 0))) (by kernel_rfl) ⟨NX2.out.net, NYB.out.net⟩ (fun hHeld => ?_)
      have HB6 := Lib.hid (Below.drew (Below.refl w5.heap.size w5))
      have N6 := Lib.hid (NX2.out.then HB6.out)
      have Y6 := Lib.hid (NYB.out.then HB6.out)
      clear NX2
      generalize w5.drew = w6 at *
      try simp only [List.getElem_toArray, List.getElem_cons_zero, List.getElem_cons_succ, Act.put, List.setIfInBounds_toArray, List.set_cons_zero, List.set_cons_succ]
      refine wpAnyH_take (i := 0) (v := .agg #[.int .i64 (s : Int), .slice Ax nx cx, .slice Bx mx dx]) rfl (by kernel_rfl) (by kernel_rfl) (by kernel_rfl) (fun _ _ _ h => h) (yields_part 29 3 (by rfl) (.tmp 5) rfl ⟨g5, 0, none⟩ rfl [.int .i64 (s : Int), .slice Ax nx cx, .slice Bx mx dx] agg_net sz_net rfl (fun w hw => load_net w hw.1)) hHeld ?_
      try simp only [List.getElem_toArray, List.getElem_cons_zero, List.getElem_cons_succ, Act.put, List.setIfInBounds_toArray, List.set_cons_zero, List.set_cons_succ]
      refine wpAnyH_take (i := 1) (v := .agg #[.int .i64 (s : Int), .slice Ay nx cy, .slice By mx dy]) rfl (by kernel_rfl) (by kernel_rfl) (by kernel_rfl) (fun _ _ _ h => h) (yields_part 29 3 (by rfl) (.tmp 7) rfl ⟨g7, 0, none⟩ rfl [.int .i64 (s : Int), .slice Ay nx cy, .slice By mx dy] agg_net sz_net rfl (fun w hw => load_net w hw.2)) hHeld ?_
      try simp only [List.getElem_toArray, List.getElem_cons_zero, List.getElem_cons_succ, Act.put, List.setIfInBounds_toArray, List.set_cons_zero, List.set_cons_succ]
      refine wpAnyH_ready (rs := [2]) (by kernel_rfl) (by simp) (AllReadyH.cons rfl (fun K hK => ?_) AllReadyH.nil)
      go_simp
      go_at_call 7
      refine (rsame_any (s : Int) (oE Ls) (zl (oX Ls)) Ax Bx Ay By nx cx mx dx cy dy p3.out p4.out (by omega) (by omega) w6 N6.out.re N6.out.rx Y6.out.re Y6.out.rx).mono ?_
      rintro e w7 ⟨rfl, hb⟩
      have N7 := Lib.hid (N6.out.then hb)
      have Y7 := Lib.hid (Y6.out.then hb)
      have HB7 := Lib.hid (bl_trans HB6.out hb)
      have hS1 := And.intro N7.out.net Y7.out.net
      clear hHeld hb N6 Y6 HB6
      go_wp2_with fail
      refine hK.out _ _ hS1 (fun hHeld => ?_)
      clear hK K hS1
      try simp only [List.getElem_toArray, List.getElem_cons_zero, List.getElem_cons_succ, Act.put, List.setIfInBounds_toArray, List.set_cons_zero, List.set_cons_succ]
      refine wpAnyH_take (i := 3) (v := ?vzm83) rfl (by kernel_rfl) (by kernel_rfl) (by kernel_rfl) (fun _ _ _ h => h) (Or.inl ⟨by rfl, ?yzm83⟩) hHeld ?rzm83
      case yzm83 => (intro wS hSw; clear hSw; go_simp; try (with_reducible rfl))
      try simp only [List.getElem_toArray, List.getElem_cons_zero, List.getElem_cons_succ, Act.put, List.setIfInBounds_toArray, List.set_cons_zero, List.set_cons_succ]
      refine wpAnyH_take (i := 4) (v := ?vzm84) rfl (by kernel_rfl) (by kernel_rfl) (by kernel_rfl) (fun _ _ _ h => h) (Or.inl ⟨by rfl, ?yzm84⟩) hHeld ?rzm84
      case yzm84 => (intro wS hSw; clear hSw; go_simp; try (with_reducible rfl))
      try simp only [List.getElem_toArray, List.getElem_cons_zero, List.getElem_cons_succ, Act.put, List.setIfInBounds_toArray, List.set_cons_zero, List.set_cons_succ]
      refine wpAnyH_take (i := 5) (v := ?vzm85) rfl (by kernel_rfl) (by kernel_rfl) (by kernel_rfl) (fun _ _ _ h => h) (Or.inl ⟨by rfl, ?yzm85⟩) hHeld ?rzm85
      case yzm85 => (intro wS hSw; clear hSw; go_simp; try (with_reducible rfl))
      try simp only [List.getElem_toArray, List.getElem_cons_zero, List.getElem_cons_succ, Act.put, List.setIfInBounds_toArray, List.set_cons_zero, List.set_cons_succ]
      refine wpAnyH_take (i := 6) (v := ?vzm86) rfl (by kernel_rfl) (by kernel_rfl) (by kernel_rfl) (fun _ _ _ h => h) (Or.inl ⟨by rfl, ?yzm86⟩) hHeld ?rzm86
      case yzm86 => (intro wS hSw; clear hSw; go_simp; try (with_reducible rfl))
      try simp only [List.getElem_toArray, List.getElem_cons_zero, List.getElem_cons_succ, Act.put, List.setIfInBounds_toArray, List.set_cons_zero, List.set_cons_succ]
      refine wpAnyH_take (i := 7) (v := ?vzm87) rfl (by kernel_rfl) (by kernel_rfl) (by kernel_rfl) (fun _ _ _ h => h) (Or.inl ⟨by rfl, ?yzm87⟩) hHeld ?rzm87
      case yzm87 => (intro wS hSw; clear hSw; go_simp; try (with_reducible rfl))
      try simp only [List.getElem_toArray, List.getElem_cons_zero, List.getElem_cons_succ, Act.put, List.setIfInBounds_toArray, List.set_cons_zero, List.set_cons_succ]
      refine wpAnyH_take (i := 8) (v := ?vzm88) rfl (by kernel_rfl) (by kernel_rfl) (by kernel_rfl) (fun _ _ _ h => h) (Or.inl ⟨by rfl, ?yzm88⟩) hHeld ?rzm88
      case yzm88 => (intro wS hSw; clear hSw; go_simp; try (with_reducible rfl))
      try simp only [List.getElem_toArray, List.getElem_cons_zero, List.getElem_cons_succ, Act.put, List.setIfInBounds_toArray, List.set_cons_zero, List.set_cons_succ]
      refine wpAnyH_take (i := 9) (v := ?vzm89) rfl (by kernel_rfl) (by kernel_rfl) (by kernel_rfl) (fun _ _ _ h => h) (Or.inl ⟨by rfl, ?yzm89⟩) hHeld ?rzm89
      case yzm89 => (intro wS hSw; clear hSw; go_simp; try (with_reducible rfl))
      try simp only [List.getElem_toArray, List.getElem_cons_zero, List.getElem_cons_succ, Act.put, List.setIfInBounds_toArray, List.set_cons_zero, List.set_cons_succ]
      refine wpAnyH_take (i := 10) (v := .agg #[.int .i64 (s : Int), .slice Ax nx cx, .slice Bx mx dx]) rfl (by kernel_rfl) (by kernel_rfl) (by kernel_rfl) (fun _ _ _ h => h) (yields_part 29 3 (by rfl) (.tmp 5) rfl ⟨g5, 0, none⟩ rfl [.int .i64 (s : Int), .slice Ax nx cx, .slice Bx mx dx] agg_net sz_net rfl (fun w hw => load_net w hw.1)) hHeld ?_
      try simp only [List.getElem_toArray, List.getElem_cons_zero, List.getElem_cons_succ, Act.put, List.setIfInBounds_toArray, List.set_cons_zero, List.set_cons_succ]
      refine wpAnyH_take (i := 12) (v := .agg #[.int .i64 (s : Int), .slice Ay nx cy, .slice By mx dy]) rfl (by kernel_rfl) (by kernel_rfl) (by kernel_rfl) (fun _ _ _ h => h) (yields_part 29 3 (by rfl) (.tmp 7) rfl ⟨g7, 0, none⟩ rfl [.int .i64 (s : Int), .slice Ay nx cy, .slice By mx dy] agg_net sz_net rfl (fun w hw => load_net w hw.2)) hHeld ?_
      try simp only [List.getElem_toArray, List.getElem_cons_zero, List.getElem_cons_succ, Act.put, List.setIfInBounds_toArray, List.set_cons_zero, List.set_cons_succ]
      have hck := N7.out.check
      rw [HKC.out] at hck
      have HCK := Lib.hid hck
      clear hck
      refine wpAnyH_ready (rs := [11]) (by kernel_rfl) (by simp) (AllReadyH.cons rfl (fun K hK => ?_) AllReadyH.nil)
      go_simp
      go_at_call 8
      refine (HCK.out).mono ?_
      rintro e w8 ⟨rfl, hb⟩
      have N8 := Lib.hid (N7.out.then hb)
      have Y8 := Lib.hid (Y7.out.then hb)
      have HB8 := Lib.hid (bl_trans HB7.out hb)
      have hS1 := And.intro N8.out.net Y8.out.net
      clear hHeld hb N7 Y7 HB7
      go_wp2_with fail
      refine hK.out _ _ hS1 (fun hHeld => ?_)
      clear hK K hS1
      try simp only [List.getElem_toArray, List.getElem_cons_zero, List.getElem_cons_succ, Act.put, List.setIfInBounds_toArray, List.set_cons_zero, List.set_cons_succ]
      clear HCK
      have hck := rcheck_any (s : Int) (oE Ls) (zl (oX Ls)) Ay By nx cy mx dy Y8.out.ln Y8.out.lx Y8.out.bn Y8.out.bx w8 Y8.out.re Y8.out.rx
      rw [HKC.out] at hck
      have HCK := Lib.hid hck
      clear hck
      refine wpAnyH_ready (rs := [13]) (by kernel_rfl) (by simp) (AllReadyH.cons rfl (fun K hK => ?_) AllReadyH.nil)
      go_simp
      go_at_call 9
      refine (HCK.out).mono ?_
      rintro e w9 ⟨rfl, hb⟩
      have N9 := Lib.hid (N8.out.then hb)
      have Y9 := Lib.hid (Y8.out.then hb)
      have HB9 := Lib.hid (bl_trans HB8.out hb)
      have hS1 := And.intro N9.out.net Y9.out.net
      clear hHeld hb N8 Y8 HB8
      go_wp2_with fail
      refine hK.out _ _ hS1 (fun hHeld => ?_)
      clear hK K hS1
      try simp only [List.getElem_toArray, List.getElem_cons_zero, List.getElem_cons_succ, Act.put, List.setIfInBounds_toArray, List.set_cons_zero, List.set_cons_succ]
      refine wpAnyH_take (i := 14) (v := ?vzm814) rfl (by kernel_rfl) (by kernel_rfl) (by kernel_rfl) (fun _ _ _ h => h) (Or.inl ⟨by rfl, ?yzm814⟩) hHeld ?rzm814
      case yzm814 => (intro wS hSw; clear hSw; go_simp; try (with_reducible rfl))
      try simp only [List.getElem_toArray, List.getElem_cons_zero, List.getElem_cons_succ, Act.put, List.setIfInBounds_toArray, List.set_cons_zero, List.set_cons_succ]
      refine wpAnyH_take (i := 15) (v := ?vzm815) rfl (by kernel_rfl) (by kernel_rfl) (by kernel_rfl) (fun _ _ _ h => h) (Or.inl ⟨by rfl, ?yzm815⟩) hHeld ?rzm815
      case yzm815 => (intro wS hSw; clear hSw; go_simp; try (with_reducible rfl))
      try simp only [List.getElem_toArray, List.getElem_cons_zero, List.getElem_cons_succ, Act.put, List.setIfInBounds_toArray, List.set_cons_zero, List.set_cons_succ]
      refine wpAnyH_done (by kernel_rfl) ?_ _
      clear hHeld HCK HKC ue uk
      have OE9 := Lib.hid (show w9.ownsRow w1.heap.size 39 7 (.slice Ax nx cx) nx (cellsEs (oE Ls)) from by
        have h := World.ownsRow.kept OE2.out (grown_of_below HB9.out none) (by cases (Value.slice Ax nx cx).ownBlock <;> simp)
        rw [p3.out] at h
        exact h)
      have YE9 := Lib.hid (show OwnE w9 w3.heap.size (.slice Ay nx cy) (oE Ls) from World.ownsRow.kept OYE.out (grown_of_below HB9.out none) (by cases (Value.slice Ay nx cy).ownBlock <;> simp))
      have YI9 := Lib.hid (show OwnI w9 w3.heap.size (.slice By mx dy) (oX Ls) from World.ownsRow.kept OYI.out (grown_of_below HB9.out none) (by cases (Value.slice By mx dy).ownBlock <;> simp))
      have HR9 := Lib.hid (bl_trans HBR.out HB9.out)
      clear OE2 OYE OYI HBR HB9 NYB
      go_wp2_with fail
      go_loopw [9] (fun vi wr => ∃ (i : Nat) (xs : List Value), i ≤ nx ∧ vi = .int .i64 (i : Int) ∧ Hid (wr.ownsRow w1.heap.size 39 7 (.slice Ax nx cx) nx xs) ∧ Hid (w9.grownBy wr (Value.slice Ax nx cx).ownBlock)) (fun vi _ => nx - (intOf vi).toNat)
      case atStart => exact ⟨0, _, Nat.zero_le _, rfl, OE9, ⟨rfl, rfl, rfl, Nat.le_refl _, fun _ _ _ => rfl⟩⟩
      case round =>
        obtain ⟨i, xs, hi, rfl, OX, HG⟩ := hrel
        clear OE9
        have kx := (HG.out.block g5 (Array.getElem?_eq_some_iff.1 N9.out.net).1 (fun e => by have h := (HXB.out g5 e.symm).2; omega)).trans N9.out.net
        have q1 := cell_of_row wr g5 1 _ _ _ kx
        by_cases hlt : i < nx
        · have hox := OX.out
          rcases hox.2 with ⟨e, hn0⟩ | ⟨g, cap, cu, e, hbs, hgg, hnc, hcm, _, _⟩
          · omega
          · simp only [Value.slice.injEq, true_and] at e
            obtain ⟨e1, e3⟩ := e
            subst e1 e3
            have hlen : xs.length = nx * 7 := hox.1
            have cy1 := hox.cellAt (i * 7 + 1) (by omega)
            obtain ⟨u0, hu0⟩ : ∃ u, xs[i * 7 + 1]? = some u := ⟨_, List.getElem?_eq_getElem (by omega)⟩
            rw [hu0] at cy1
            have cz1 := hox.frozenAt (i * 7 + 1)
            have hst := hox.stored (i * 7 + 1) (.int .i64 0)
            have HO1 := Lib.hid hst.1
            have HG1 := Lib.hid (HG.out.trans hst.2)
            have hix : (i : Int) < (nx : Int) := by omega
            clear hox hst hbs hgg hnc hcm hu0 HG OX kx
            go_wp2_with fail
            exact ⟨⟨i + 1, _, by omega, by go_num, HO1, HG1⟩, by simp [intOf]; omega⟩
        · obtain rfl : i = nx := by omega
          have HR10 := Lib.hid (bl_grown HR9.out HG.out (fun j e => (HXB.out j e).1))
          have X1' := Lib.hid (X1.out.below HR10.out)
          have X0' := Lib.hid (X0.out.below HR10.out)
          have hye : OwnE wr w3.heap.size (.slice Ay i cy) (oE Ls) := World.ownsRow.kept YE9.out HG.out (by
            cases hx : (Value.slice Ay i cy).ownBlock with
            | none => exact Or.inl rfl
            | some j => exact Or.inr fun e => by have h1 := (HXB.out j e.symm).2; have h2 := (World.ownsRow.lt YE9.out j hx).1; have h3 := HG5.out; omega)
          have hyi : OwnI wr w3.heap.size (.slice By mx dy) (oX Ls) := World.ownsRow.kept YI9.out HG.out (by
            cases hx : (Value.slice By mx dy).ownBlock with
            | none => exact Or.inl rfl
            | some j => exact Or.inr fun e => by have h1 := (HXB.out j e.symm).2; have h2 := (World.ownsRow.lt YI9.out j hx).1; have h3 := HG5.out; omega)
          obtain ⟨A', n', c', e1, z1, z2, z3, z4⟩ := hye.form
          injection e1 with e1 e2 e3
          subst e1 e2 e3
          obtain ⟨A', n', c', e1, x1, x2, x3, x4⟩ := hyi.form
          injection e1 with e1 e2 e3
          subst e1 e2 e3
          have BWQ := Lib.hid (bl_trans BW.out HR10.out)
          have NYQ := Lib.hid (show NetB W g7 (s : Int) (oE Ls) (zl (oX Ls)) Ay By i cy mx dy wr from
            ⟨(HG.out.block g7 (Array.getElem?_eq_some_iff.1 Y9.out.net).1 (fun e => by have h := (HXB.out g7 e.symm).2; have h3 := HG5.out; have h4 := HG7.out; omega)).trans Y9.out.net, z4, rdw_z x4, BWQ.out, q3.out, q4.out, z2, x2, by omega, by omega⟩)
          clear hye hyi z4 x4 YE9 YI9 HG HR9 HR10 N9 Y9 X1 X0 OX HXB
          go_wp2_with fail
          obtain ⟨w10, hw10⟩ : ∃ x, x = wr := ⟨_, rfl⟩
          subst hw10
          go_loopw [10] (fun vi wr => ∃ (i : Nat), i ≤ n1 ∧ vi = .int .i64 (i : Int) ∧ Hid (Below w10.heap.size w10 wr)) (fun vi _ => n1 - (intOf vi).toNat)
          case atStart => exact ⟨0, Nat.zero_le _, rfl, Below.refl _ _⟩
          case round =>
            obtain ⟨t, ht, rfl, HT⟩ := hrel
            by_cases hlt : t < n1
            · have h2 : t < Ls.length := by rw [HN.out]; exact hlt
              obtain ⟨ad1, B1, m1, d1, hA1, hc1, hm1, hmd1, hr1⟩ := X1'.out t h2
              obtain ⟨ad0, B0, m0, d0, hA0, hc0, hm0, hmd0, hr0⟩ := X0'.out t h2
              subst hA1 hA0
              have k1 := (HT.out.cell (World.block_lt_of_cell? _ _ hc1)).trans hc1
              have k0 := (HT.out.cell (World.block_lt_of_cell? _ _ hc0)).trans hc0
              have hm56 := HLM.out _ (List.getElem_mem h2)
              obtain rfl : m1 = m0 := by rw [← hm1]; exact hm0
              have HC := Lib.hid (fun (w : World) (hb : Below w10.heap.size w10 w) => show Calls Tryz.prog 10 #[.agg #[.slice B1 m1 d1], .agg #[.slice B0 m1 d0]] w (GotB w true) from by
                have h := same_any Ls[t] Ls[t] B1 m1 d1 B0 m1 d0 hm1 hm0 (by simp only [maxLen]; omega) w (hr1.below hb) (hr0.below hb)
                rwa [decide_eq_true rfl] at h)
              have htn : (t : Int) < (n1 : Int) := by omega
              clear hc1 hc0 hm1 hm0 hmd1 hmd0 hr1 hr0 hm56
              go_wp2_with fail
              refine wp_region_held_drew (S := fun W' => W'.cell? (ad1.add t) = some (.slice B1 m1 d1) ∧ W'.cell? (ad0.add t) = some (.slice B0 m1 d0)) (by kernel_rfl) ⟨k1, k0⟩ (fun hHeld => ?_)
              have HT1 := Lib.hid (bl_trans HT.out (Below.drew (Below.refl wr.heap.size wr)))
              clear HT k1 k0
              generalize wr.drew = w11 at *
              try simp only [List.getElem_toArray, List.getElem_cons_zero, List.getElem_cons_succ, Act.put, List.setIfInBounds_toArray, List.set_cons_zero, List.set_cons_succ]
              refine wpAnyH_take (i := 0) (v := ?vzm90) rfl (by kernel_rfl) (by kernel_rfl) (by kernel_rfl) (fun _ _ _ h => h) (Or.inl ⟨by rfl, ?yzm90⟩) hHeld ?rzm90
              case yzm90 => (intro wS hSw; clear hSw; go_simp; try (with_reducible rfl))
              try simp only [List.getElem_toArray, List.getElem_cons_zero, List.getElem_cons_succ, Act.put, List.setIfInBounds_toArray, List.set_cons_zero, List.set_cons_succ]
              refine wpAnyH_take (i := 1) (v := ?vzm91) rfl (by kernel_rfl) (by kernel_rfl) (by kernel_rfl) (fun _ _ _ h => h) (Or.inl ⟨by rfl, ?yzm91⟩) hHeld ?rzm91
              case yzm91 => (intro wS hSw; clear hSw; go_simp; try (with_reducible rfl))
              try simp only [List.getElem_toArray, List.getElem_cons_zero, List.getElem_cons_succ, Act.put, List.setIfInBounds_toArray, List.set_cons_zero, List.set_cons_succ]
              refine wpAnyH_take (i := 2) (v := ?vzm92) rfl (by kernel_rfl) (by kernel_rfl) (by kernel_rfl) (fun _ _ _ h => h) (Or.inl ⟨by rfl, ?yzm92⟩) hHeld ?rzm92
              case yzm92 => (intro wS hSw; clear hSw; go_simp; try (with_reducible rfl))
              try simp only [List.getElem_toArray, List.getElem_cons_zero, List.getElem_cons_succ, Act.put, List.setIfInBounds_toArray, List.set_cons_zero, List.set_cons_succ]
              refine wpAnyH_take (i := 3) (v := .agg #[.slice B1 m1 d1]) rfl (by kernel_rfl) (by kernel_rfl) (by kernel_rfl) (fun _ _ _ h => h) (yields_part 25 1 (by rfl) (.tmp 75) rfl (ad1.add t) rfl [.slice B1 m1 d1] agg_rexk sz_rexk rfl (fun w hw => one_part hw.1)) hHeld ?_
              try simp only [List.getElem_toArray, List.getElem_cons_zero, List.getElem_cons_succ, Act.put, List.setIfInBounds_toArray, List.set_cons_zero, List.set_cons_succ]
              refine wpAnyH_take (i := 4) (v := ?vzm94) rfl (by kernel_rfl) (by kernel_rfl) (by kernel_rfl) (fun _ _ _ h => h) (Or.inl ⟨by rfl, ?yzm94⟩) hHeld ?rzm94
              case yzm94 => (intro wS hSw; clear hSw; go_simp; try (with_reducible rfl))
              try simp only [List.getElem_toArray, List.getElem_cons_zero, List.getElem_cons_succ, Act.put, List.setIfInBounds_toArray, List.set_cons_zero, List.set_cons_succ]
              refine wpAnyH_take (i := 5) (v := ?vzm95) rfl (by kernel_rfl) (by kernel_rfl) (by kernel_rfl) (fun _ _ _ h => h) (Or.inl ⟨by rfl, ?yzm95⟩) hHeld ?rzm95
              case yzm95 => (intro wS hSw; clear hSw; go_simp; try (with_reducible rfl))
              try simp only [List.getElem_toArray, List.getElem_cons_zero, List.getElem_cons_succ, Act.put, List.setIfInBounds_toArray, List.set_cons_zero, List.set_cons_succ]
              refine wpAnyH_take (i := 6) (v := ?vzm96) rfl (by kernel_rfl) (by kernel_rfl) (by kernel_rfl) (fun _ _ _ h => h) (Or.inl ⟨by rfl, ?yzm96⟩) hHeld ?rzm96
              case yzm96 => (intro wS hSw; clear hSw; go_simp; try (with_reducible rfl))
              try simp only [List.getElem_toArray, List.getElem_cons_zero, List.getElem_cons_succ, Act.put, List.setIfInBounds_toArray, List.set_cons_zero, List.set_cons_succ]
              refine wpAnyH_take (i := 7) (v := .agg #[.slice B0 m1 d0]) rfl (by kernel_rfl) (by kernel_rfl) (by kernel_rfl) (fun _ _ _ h => h) (yields_part 25 1 (by rfl) (.tmp 79) rfl (ad0.add t) rfl [.slice B0 m1 d0] agg_rexk sz_rexk rfl (fun w hw => one_part hw.2)) hHeld ?_
              try simp only [List.getElem_toArray, List.getElem_cons_zero, List.getElem_cons_succ, Act.put, List.setIfInBounds_toArray, List.set_cons_zero, List.set_cons_succ]
              refine wpAnyH_ready (rs := [8]) (by kernel_rfl) (by simp) (AllReadyH.cons rfl (fun K hK => ?_) AllReadyH.nil)
              go_simp
              go_at_call 10
              refine (HC.out _ HT1.out).mono ?_
              rintro e w12 ⟨rfl, hb⟩
              have HT2 := Lib.hid (bl_trans HT1.out hb)
              have hS1 := And.intro ((hb.cell (World.block_lt_of_cell? _ _ hHeld.1)).trans hHeld.1) ((hb.cell (World.block_lt_of_cell? _ _ hHeld.2)).trans hHeld.2)
              clear hHeld hb HT1 HC
              go_wp2_with fail
              refine hK.out _ _ hS1 (fun hHeld => ?_)
              clear hK K hS1
              try simp only [List.getElem_toArray, List.getElem_cons_zero, List.getElem_cons_succ, Act.put, List.setIfInBounds_toArray, List.set_cons_zero, List.set_cons_succ]
              refine wpAnyH_take (i := 9) (v := ?vzm99) rfl (by kernel_rfl) (by kernel_rfl) (by kernel_rfl) (fun _ _ _ h => h) (Or.inl ⟨by rfl, ?yzm99⟩) hHeld ?rzm99
              case yzm99 => (intro wS hSw; clear hSw; go_simp; try (with_reducible rfl))
              try simp only [List.getElem_toArray, List.getElem_cons_zero, List.getElem_cons_succ, Act.put, List.setIfInBounds_toArray, List.set_cons_zero, List.set_cons_succ]
              refine wpAnyH_done (by kernel_rfl) ?_ _
              clear hHeld
              go_wp2_with fail
              exact ⟨⟨t + 1, by omega, by go_num, HT2⟩, by simp [intOf]; omega⟩
            · obtain rfl : t = n1 := by omega
              have XZ := Lib.hid (X0'.out.below HT.out)
              have NY2 := Lib.hid (NYQ.out.then HT.out)
              have HC := Lib.hid (of_all Ls A t c HN.out (by omega) wr XZ.out)
              clear X0' X1' NYQ
              go_wp2_with fail
              refine HC.out.mono ?_
              rintro e w13 he
              obtain ⟨Az, nz, cz, Bz, mz, dz, rfl, hoe, hoi, v1, v2, v3, v4, v5, v6, v7, v8, hb⟩ := of_own he
              rw [HS.out]
              obtain rfl : i = nz := by rw [← q3.out]; exact v3.out
              obtain rfl : mx = mz := by rw [← q4.out]; exact v4.out
              clear he HC hoe hoi
              have bx := bl_alloc (Below.refl w13.heap.size w13) (.cells #[.int .i64 (s : Int), .slice Az i cz, .slice Bz mx dz] 29)
              have NZ2 := Lib.hid (show NetB W w13.heap.size (s : Int) (oE Ls) (zl (oX Ls)) Az Bz i cz mx dz (w13.alloc (.cells #[.int .i64 (s : Int), .slice Az i cz, .slice Bz mx dz] 29)) from
                ⟨heap_alloc_new w13 _, v1.below bx, v2.below bx, bl_trans (bl_trans NY2.out.low hb) bx, v3.out, v4.out, v5, v6, by omega, by omega⟩)
              have NY3 := Lib.hid ((NY2.out.then hb).then bx)
              clear v1 v2 v5 v6 hb bx NY2
              go_upto_region 20 with fail
              generalize w13.alloc (.cells #[.int .i64 (s : Int), .slice Az i cz, .slice Bz mx dz] 29) = w14 at *
              generalize w13.heap.size = gz at *
              have L1 := Lib.hid NZ2.out.load
              have L2 := Lib.hid NY3.out.load
              have HC := Lib.hid (rsame_any (s : Int) (oE Ls) (zl (oX Ls)) Az Bz Ay By i cz mx dz cy dy v3.out v4.out (by omega) (by omega) w14 NZ2.out.re NZ2.out.rx NY3.out.re NY3.out.rx)
              go_wp2_with (first | (refine wpList_load_part 29 3 _ rfl rfl ⟨gz, 0, none⟩ rfl [.int .i64 (s : Int), .slice Az i cz, .slice Bz mx dz] (agg_net _) (sz_net _) rfl L1.out ?_) | (refine wpList_load_part 29 3 _ rfl rfl ⟨g7, 0, none⟩ rfl [.int .i64 (s : Int), .slice Ay i cy, .slice By mx dy] (agg_net _) (sz_net _) rfl L2.out ?_))
              refine HC.out.mono ?_
              rintro e w15 ⟨rfl, hb⟩
              have BZ := Lib.hid (bl_trans NZ2.out.low hb)
              clear hb HC L1 L2
              go_wp2_with fail
              refine (works_any _).mono ?_
              rintro e w16 ⟨rfl, hb⟩
              have BZ2 := Lib.hid (bl_trans BZ.out hb)
              clear hb
              go_wp2_with fail
              exact post_is HQ ⟨rfl, BZ2.out⟩

end Go.Proofs.YtjibfffefppniaaGreat
