/- The law on two lists of patterns: the walk. -/
import Derived.Test.YtjibfffefppniaaNfApM
set_option linter.unusedVariables false
set_option linter.unusedSimpArgs false
namespace Go.Proofs.Ytjibfffefppniaa
open Go.RowKit
attribute [local go_sem] Oper.semAt_some

/-- The net of patterns that may be. -/
def GotNet (W : World) (Ls : List (List RN)) (e : Ending) (W' : World) : Prop :=
  ∃ A n c A2 n2 c2, e = .returned (.tuple #[.agg #[.int .i64 ((netS Ls : Nat) : Int), .slice A n c, .slice A2 n2 c2], .int .i64 0]) ∧ RdE W' A (netE 1 Ls) ∧ RdW W' A2 (zl (netX 1 Ls)) ∧ Hid ((netE 1 Ls).length = n) ∧ Hid ((zl (netX 1 Ls)).length = n2) ∧ n ≤ c ∧ n2 ≤ c2 ∧ n ≤ 140737488355328 ∧ n2 ≤ 140737488355328 ∧ Below W.heap.size W W'
theorem of_net (Ls : List (List RN)) (A : Option Addr) (n c : Nat) (hn : Ls.length = n) (hn2 : n ≤ 140737488355328) (ho : ofN Ls = 0) (hs : netS Ls ≤ 2048) (h64 : n ≤ 64) (W : World) (hr : RdX W A Ls) :
    Calls Try.prog 18 #[.slice A n c] W (GotNet W Ls) := by
  refine (of_all Ls A n c hn hn2 W hr).mono ?_
  rintro e w2 ⟨S, A, n, c, A2, n2, c2, rfl, y1, y2, y3, y4⟩
  rw [ho, if_pos rfl] at y1 y2 y3
  rw [ho]
  subst y3
  obtain ⟨A', n', c', e1, z1, z2, z3, z4⟩ := y1.form
  injection e1 with e1 e2 e3
  subst e1 e2 e3
  obtain ⟨A', n', c', e1, x1, x2, x3, x4⟩ := y2.form
  injection e1 with e1 e2 e3
  subst e1 e2 e3
  have h1 := nete_len Ls 1
  have h2 := netx_len Ls 1
  have h3 := z1.out
  have h4 := x1.out
  unfold netS at hs
  exact ⟨A, n, c, A2, n2, c2, rfl, z4, rdw_z x4, z1, by unfold zl; rw [Hid, List.length_map]; exact x1.out, z2, x2, by omega, by omega, y4⟩
theorem few_net {ts : List Rx} (h : ∀ t ∈ ts, t.size ≤ 60) (hl : ts.length ≤ 6) : ofN (flats ts) = 0 ∧ netS (flats ts) ≤ 2048 := by
  have h1 := few_sizes h
  refine ⟨few_ok h hl, ?_⟩
  unfold netS
  omega
/-- The cells of a slice of patterns. -/
theorem rdx_vals {w : World} {A : Option Addr} {Ls : List (List RN)} (h : RdX w A Ls) : ∃ vals : List Value, vals.length = Ls.length ∧ ((vals = [] ∧ A = none) ∨ ∃ ad, A = some ad ∧ ∀ j u, vals[j]? = some u → w.cell? (ad.add j) = some u) ∧
    (∀ i (hi : i < Ls.length), ∃ B m d, vals[i]? = some (.slice B m d) ∧ Ls[i].length = m ∧ m ≤ d ∧ RdR w B Ls[i]) ∧ ∀ u ∈ vals, u.oneCell' = true := by
  have each : ∀ i, i < Ls.length → ∃ v : Value, ∃ B m d, v = .slice B m d ∧ (∃ hi : i < Ls.length, Ls[i].length = m ∧ m ≤ d ∧ RdR w B Ls[i]) ∧ ∃ ad, A = some ad ∧ w.cell? (ad.add i) = some v := by
    intro i hi
    obtain ⟨ad, B, m, d, e, hc, h1, h2, h3⟩ := h i hi
    exact ⟨_, B, m, d, rfl, ⟨hi, h1, h2, h3⟩, ad, e, hc⟩
  let f : Nat → Value := fun i => if hi : i < Ls.length then (each i hi).choose else .bool false
  have hf : ∀ i (hi : i < Ls.length), f i = (each i hi).choose := fun i hi => dif_pos hi
  refine ⟨(List.range Ls.length).map f, by simp, ?_, fun i hi => ?_, fun u hu => ?_⟩
  · cases A with
    | none =>
      left
      refine ⟨?_, rfl⟩
      cases Ls with
      | nil => rfl
      | cons l Ls => obtain ⟨ad, _, _, _, e, _⟩ := h 0 (by simp); cases e
    | some ad =>
      right
      refine ⟨ad, rfl, fun j u hu => ?_⟩
      rw [List.getElem?_map] at hu
      obtain ⟨k, hk, rfl⟩ := Option.map_eq_some_iff.1 hu
      obtain ⟨hj, hk2⟩ := List.getElem?_eq_some_iff.1 hk
      rw [List.getElem_range] at hk2
      subst hk2
      have hj2 : j < Ls.length := by simpa using hj
      obtain ⟨B, m, d, e1, _, ad', e2, hc⟩ := (each j hj2).choose_spec
      obtain rfl := Option.some.inj e2
      rw [hf j hj2]
      exact hc
  · obtain ⟨B, m, d, e1, ⟨_, h1, h2, h3⟩, _⟩ := (each i hi).choose_spec
    refine ⟨B, m, d, ?_, h1, h2, h3⟩
    rw [List.getElem?_map, List.getElem?_range hi, Option.map_some, hf i hi, e1]
  · obtain ⟨i, hi, rfl⟩ := List.mem_map.1 hu
    have hi := List.mem_range.1 hi
    obtain ⟨B, m, d, e1, _⟩ := (each i hi).choose_spec
    rw [hf i hi, e1]
    rfl
/-- A row of patterns that a call made of what it read. -/
theorem rdx_row {w : World} {base : Nat} {v : Value} {Ls : List (List RN)} {vals : List Value} {n : Nat} (h : w.ownsRow base 69 1 v n vals) (hn : Ls.length = n) (hv : ∀ i (hi : i < Ls.length), ∃ B m d, vals[i]? = some (.slice B m d) ∧ Ls[i].length = m ∧ m ≤ d ∧ RdR w B Ls[i]) :
    ∃ B m d, v = .slice B m d ∧ Hid (Ls.length = m) ∧ m ≤ d ∧ RdX w B Ls := by
  subst hn
  rcases h.2 with ⟨e, hn⟩ | ⟨g, cap, cur, e, hbs, hg, hnc, hcm, r⟩
  · exact ⟨none, 0, 0, e, hn, Nat.le_refl _, fun i hi => by omega⟩
  · refine ⟨some ⟨g, 0, none⟩, _, cap, e, rfl, hnc, fun i hi => ?_⟩
    obtain ⟨B, m, d, y1, y2, y3, y4⟩ := hv i hi
    exact ⟨_, B, m, d, rfl, World.ownsRow.cells h (g := g) (by rw [e]; rfl) i _ y1, y2, y3, y4⟩
theorem RdR.keep {w w' : World} {B : Option Addr} {l : List RN} (h : RdR w B l) (hb : Below w.heap.size w w') : RdR w' B l := h.below hb
set_option maxHeartbeats 16000000 in
set_option maxRecDepth 20000 in
theorem order_walk (A0 A1 At : Option Addr) (n0 c0 n1 c1 nt ct : Nat) (La Lb : List (List RN)) (T : List UInt8) (W : World) (e0 : La.length = n0) (a0 : n0 ≤ c0) (b0 : c0 * 24 ≤ 140737488351232) (r0 : RdX W A0 La)
    (e1 : Lb.length = n1) (a1 : n1 ≤ c1) (b1 : c1 * 24 ≤ 140737488351232) (r1 : RdX W A1 Lb) (ht : T.length = nt) (htc : nt ≤ ct) (hct : ct ≤ 140737488351232) (rt : Rd W At T) :
    Calls Try.prog 6 #[.slice A0 n0 c0, .slice A1 n1 c1, .slice At nt ct] W (Yes W) := by
  generalize hQ : Yes W = Q
  have HQ := Lib.hid hQ
  have E0 := Lib.hid e0
  have E1 := Lib.hid e1
  have X0 := Lib.hid r0
  have X1 := Lib.hid r1
  have HT := Lib.hid ht
  have R0 := Lib.hid rt
  clear hQ e0 e1 r0 r1 ht rt
  go_enter Try.func6, Try.ntmps6
  go_wp2_with fail
  refine (works_any _).mono ?_
  rintro e w1 ⟨rfl, hb1⟩
  have B1 := Lib.hid hb1
  have HC := Lib.hid (few_any La A0 n0 c0 E0.out (by omega) w1 (X0.out.below hb1))
  clear hb1
  obtain ⟨fa, hfa⟩ : ∃ x, fewE La = x := ⟨_, rfl⟩
  rw [hfa] at HC
  have HFA := Lib.hid hfa
  clear hfa
  go_wp2_with fail
  refine HC.out.mono ?_
  rintro e w2 ⟨rfl, hb⟩
  have B2 := Lib.hid (bl_trans B1.out hb)
  clear HC hb B1
  cases fa with
  | false =>
    go_wp2_with fail
    exact post_is HQ ⟨rfl, B2.out⟩
  | true =>
  have HC := Lib.hid (few_any Lb A1 n1 c1 E1.out (by omega) w2 (X1.out.below B2.out))
  obtain ⟨fb, hfb⟩ : ∃ x, fewE Lb = x := ⟨_, rfl⟩
  rw [hfb] at HC
  have HFB := Lib.hid hfb
  clear hfb
  go_wp2_with fail
  refine HC.out.mono ?_
  rintro e w3 ⟨rfl, hb⟩
  have B3 := Lib.hid (bl_trans B2.out hb)
  clear HC hb B2
  cases fb with
  | false =>
    go_wp2_with fail
    exact post_is HQ ⟨rfl, B3.out⟩
  | true =>
  by_cases h0 : 3 < n0
  · have d0 : decide ((3 : Int) < (n0 : Int)) = true := by simp; omega
    have d1 : decide (3 < n0) = true := by simp; omega
    go_wp2_with fail
    exact post_is HQ ⟨rfl, B3.out⟩
  have d0 : decide ((3 : Int) < (n0 : Int)) = false := by simp; omega
  have d0' : decide (3 < n0) = false := by simp; omega
  by_cases h1 : 3 < n1
  · have d2 : decide ((3 : Int) < (n1 : Int)) = true := by simp; omega
    have d3 : decide (3 < n1) = true := by simp; omega
    go_wp2_with fail
    exact post_is HQ ⟨rfl, B3.out⟩
  have d2 : decide ((3 : Int) < (n1 : Int)) = false := by simp; omega
  have d2' : decide (3 < n1) = false := by simp; omega
  obtain ⟨fa1, fa2⟩ := few_true HFA.out
  obtain ⟨fb1, fb2⟩ := few_true HFB.out
  obtain ⟨ta, hta, sa⟩ := trees_of fa2
  obtain ⟨tb, htb, sb⟩ := trees_of fb2
  have la : ta.length = n0 := by have := E0.out; rw [hta, flats_len] at this; exact this
  have lb : tb.length = n1 := by have := E1.out; rw [htb, flats_len] at this; exact this
  have lab : (ta ++ tb).length = n0 + n1 := by rw [List.length_append, la, lb]
  obtain ⟨oa, na⟩ := few_net sa (by omega)
  obtain ⟨ob, nb⟩ := few_net sb (by omega)
  have sab : ∀ t ∈ ta ++ tb, t.size ≤ 60 := fun t ht => (List.mem_append.1 ht).elim (sa t) (sb t)
  obtain ⟨oab, nab⟩ := few_net sab (by rw [lab]; omega)
  have HAB := Lib.hid (show La ++ Lb = flats (ta ++ tb) from by rw [hta, htb]; unfold flats; rw [List.map_append])
  have HTA := Lib.hid hta
  have HTB := Lib.hid htb
  have HLA := Lib.hid la
  have HLB := Lib.hid lb
  have HLAB := Lib.hid lab
  have HOA := Lib.hid oa
  have HOB := Lib.hid ob
  have HOAB := Lib.hid oab
  have HNA := Lib.hid na
  have HNB := Lib.hid nb
  have HNAB := Lib.hid nab
  clear fa1 fa2 fb1 fb2 hta htb la lb lab oa ob oab na nb nab sa sb sab HFA HFB
  obtain ⟨q, hq, hq1, hq2, hmin⟩ := min_litN nt 20 20 rfl
  have hcut := cut_t At nt ct q hq1 htc
  have R3 := Lib.hid (show Rd w3 At (T.take q) from (R0.out.below B3.out).take q)
  have HT2 := Lib.hid (show (T.take q).length = q by rw [List.length_take, HT.out]; omega)
  generalize T.take q = ts at *
  clear R0 HT hq
  have X03 := Lib.hid (X0.out.below B3.out)
  have X13 := Lib.hid (X1.out.below B3.out)
  clear X0 X1
  have HC := of_net La A0 n0 c0 E0.out (by omega) (by rw [HTA.out]; exact HOA.out) (by rw [HTA.out]; exact HNA.out) (by omega) w3 X03.out
  rw [HTA.out] at HC
  have HC2 := Lib.hid HC
  clear HC
  go_wp2_with fail
  refine HC2.out.mono ?_
  rintro e w4 ⟨Aa, na, ca, Ab, nb, cb, rfl, p1, p2, p3, p4, p5, p6, p7, p8, p9⟩
  have bx := bl_alloc (Below.refl w4.heap.size w4) (.cells #[.int .i64 ((netS (flats ta) : Nat) : Int), .slice Aa na ca, .slice Ab nb cb] 25)
  have NA := Lib.hid (show NetB W w4.heap.size ((netS (flats ta) : Nat) : Int) (netE 1 (flats ta)) (zl (netX 1 (flats ta))) Aa Ab na ca nb cb (w4.alloc (.cells #[.int .i64 ((netS (flats ta) : Nat) : Int), .slice Aa na ca, .slice Ab nb cb] 25)) from
    ⟨heap_alloc_new w4 _, p1.below bx, p2.below bx, bl_trans (bl_trans B3.out p9) bx, p3.out, p4.out, p5, p6, p7, p8⟩)
  have R4 := Lib.hid ((R3.out.below p9).below bx)
  have X04 := Lib.hid ((X03.out.below p9).below bx)
  have X14 := Lib.hid ((X13.out.below p9).below bx)
  clear p1 p2 p3 p4 p5 p6 p7 p8 p9 bx HC2 X03 X13 R3 B3
  go_upto_region 7 with fail
  generalize w4.alloc (.cells #[.int .i64 ((netS (flats ta) : Nat) : Int), .slice Aa na ca, .slice Ab nb cb] 25) = w5 at *
  generalize w4.heap.size = ga at *
  have HC := of_net Lb A1 n1 c1 E1.out (by omega) (by rw [HTB.out]; exact HOB.out) (by rw [HTB.out]; exact HNB.out) (by omega) w5 X14.out
  rw [HTB.out] at HC
  have HC2 := Lib.hid HC
  clear HC
  go_wp2_with fail
  refine HC2.out.mono ?_
  rintro e w6 ⟨Ba, ma, da, Bb, mb, db, rfl, p1, p2, p3, p4, p5, p6, p7, p8, p9⟩
  have bx := bl_alloc (Below.refl w6.heap.size w6) (.cells #[.int .i64 ((netS (flats tb) : Nat) : Int), .slice Ba ma da, .slice Bb mb db] 25)
  have NB := Lib.hid (show NetB W w6.heap.size ((netS (flats tb) : Nat) : Int) (netE 1 (flats tb)) (zl (netX 1 (flats tb))) Ba Bb ma da mb db (w6.alloc (.cells #[.int .i64 ((netS (flats tb) : Nat) : Int), .slice Ba ma da, .slice Bb mb db] 25)) from
    ⟨heap_alloc_new w6 _, p1.below bx, p2.below bx, bl_trans (bl_trans NA.out.low p9) bx, p3.out, p4.out, p5, p6, p7, p8⟩)
  have NA2 := Lib.hid ((NA.out.then p9).then bx)
  have R5 := Lib.hid ((R4.out.below p9).below bx)
  have X05 := Lib.hid ((X04.out.below p9).below bx)
  have X15 := Lib.hid ((X14.out.below p9).below bx)
  clear p1 p2 p3 p4 p5 p6 p7 p8 p9 bx HC2 X04 X14 R4 NA
  go_upto_region 8 with fail
  generalize w6.alloc (.cells #[.int .i64 ((netS (flats tb) : Nat) : Int), .slice Ba ma da, .slice Bb mb db] 25) = w7 at *
  generalize w6.heap.size = gb at *
  obtain ⟨i0, hi0, hz0, hz1, hz2⟩ := info_parts info_rex
  obtain ⟨va, va1, va2, va3, va4⟩ := rdx_vals X05.out
  have VA1 := Lib.hid (show va.length = n0 * 1 from by rw [va1, E0.out, Nat.mul_one])
  have VA2 := Lib.hid va2
  have VA3 := Lib.hid va3
  have VA4 := Lib.hid va4
  clear va1 va2 va3 va4
  obtain ⟨vb, vb1, vb2, vb3, vb4⟩ := rdx_vals X15.out
  have VB1 := Lib.hid (show vb.length = n1 * 1 from by rw [vb1, E1.out, Nat.mul_one])
  have VB2 := Lib.hid vb2
  have VB3 := Lib.hid vb3
  have VB4 := Lib.hid vb4
  clear vb1 vb2 vb3 vb4
  have hn0 : n0 ≤ 3 := by omega
  have hn1 : n1 ≤ 3 := by omega
  have HVB := Lib.hid (fun (w8 : World) (hb : Below w7.heap.size w7 w8) => show (vb = [] ∧ A1 = none) ∨ ∃ ad, A1 = some ad ∧ ∀ j u, vb[j]? = some u → w8.cell? (ad.add j) = some u from by
    rcases VB2.out with h | ⟨ad, e, h⟩
    · exact Or.inl h
    · exact Or.inr ⟨ad, e, fun j u hu => (hb.cell (World.block_lt_of_cell? _ _ (h j u hu))).trans (h j u hu)⟩)
  go_wp2_with (first
    | (at_builtin; refine wpList_append_rowsN _ rfl _ _ 40 rfl w7.heap.size 69 i0 (.agg #[.slice none 0 0]) 1 24 Try.underlying40 hi0 hz0 hz1 hz2 rfl (by decide) (.slice none 0 0) 0 [] rfl (World.ownsRow_nil _ _ _ _) A0 n0 c0 va rfl VA1.out VA2.out VA4.out (by simp only [maxLen]; omega) (by omega) (Nat.le_refl _) ?_
       intro v8 w8 ho8 hg8 hat8
       have O8 := Lib.hid (show w8.ownsRow w7.heap.size 69 1 v8 n0 va from by rw [Nat.zero_add, List.nil_append] at ho8; exact ho8)
       have B8 := Lib.hid (show Below w7.heap.size w7 w8 from bl_grown (Below.refl w7.heap.size w7) hg8 (fun i e => by cases e))
       clear ho8 hg8 hat8)
    | (at_builtin; refine wpList_append_rowsN _ rfl _ _ 40 rfl w7.heap.size 69 i0 (.agg #[.slice none 0 0]) 1 24 Try.underlying40 hi0 hz0 hz1 hz2 rfl (by decide) v8 n0 va rfl O8.out A1 n1 c1 vb rfl VB1.out (HVB.out _ B8.out) VB4.out (by simp only [maxLen]; omega) (by omega) B8.out.size ?_; intro v9 w9 ho9 hg9 hat9))
  have B9 := Lib.hid (show Below w7.heap.size w7 w9 from bl_grown B8.out hg9 (fun i e => (World.ownsRow.lt O8.out i e).1))
  obtain ⟨A9, n9, c9, rfl, hl9, hc9, hx9⟩ := rdx_row (Ls := La ++ Lb) ho9 (by rw [List.length_append, E0.out, E1.out]) (fun i hi => by
    by_cases h : i < La.length
    · obtain ⟨B, m, d, q1, q2, q3, q4⟩ := VA3.out i h
      refine ⟨B, m, d, by rw [List.getElem?_append_left (by rw [VA1.out, Nat.mul_one, ← E0.out]; exact h)]; exact q1, by rw [List.getElem_append_left h]; exact q2, q3, ?_⟩
      rw [List.getElem_append_left h]
      exact q4.below B9.out
    · have h2 : i - La.length < Lb.length := by rw [List.length_append] at hi; omega
      obtain ⟨B, m, d, q1, q2, q3, q4⟩ := VB3.out (i - La.length) h2
      have hva : va.length = La.length := by rw [VA1.out, Nat.mul_one, E0.out]
      refine ⟨B, m, d, by rw [List.getElem?_append_right (by rw [hva]; omega), hva]; exact q1, by rw [List.getElem_append_right (by omega)]; exact q2, q3, ?_⟩
      rw [List.getElem_append_right (by omega)]
      exact q4.below B9.out)
  have X9 := Lib.hid hx9
  have L9 := Lib.hid (show (La ++ Lb).length = n9 from hl9.out)
  have hn9 : n9 ≤ 6 := by have h1 := hl9.out; rw [List.length_append, E0.out, E1.out] at h1; omega
  have NA3 := Lib.hid (NA2.out.then B9.out)
  have NB3 := Lib.hid (NB.out.then B9.out)
  have R9 := Lib.hid (R5.out.below B9.out)
  have HC := of_net (La ++ Lb) A9 n9 c9 hl9.out (by omega) (by rw [HAB.out]; exact HOAB.out) (by rw [HAB.out]; exact HNAB.out) (by omega) w9 hx9
  rw [HAB.out] at HC
  have HC2 := Lib.hid HC
  clear HC ho9 hg9 hat9 hl9 hx9 NA2 NB R5 X05 X15 VA1 VA2 VA3 VA4 VB1 VB2 VB3 VB4 HVB O8 B8 B9 hi0 hz0 hz1 hz2 hc9
  go_wp2_with fail
  refine HC2.out.mono ?_
  rintro e w10 ⟨Ca, ka, ea, Cb, kb, eb, rfl, p1, p2, p3, p4, p5, p6, p7, p8, p9⟩
  have bx := bl_alloc (Below.refl w10.heap.size w10) (.cells #[.int .i64 ((netS (flats (ta ++ tb)) : Nat) : Int), .slice Ca ka ea, .slice Cb kb eb] 25)
  have NC := Lib.hid (show NetB W w10.heap.size ((netS (flats (ta ++ tb)) : Nat) : Int) (netE 1 (flats (ta ++ tb))) (zl (netX 1 (flats (ta ++ tb)))) Ca Cb ka ea kb eb (w10.alloc (.cells #[.int .i64 ((netS (flats (ta ++ tb)) : Nat) : Int), .slice Ca ka ea, .slice Cb kb eb] 25)) from
    ⟨heap_alloc_new w10 _, p1.below bx, p2.below bx, bl_trans (bl_trans NA3.out.low p9) bx, p3.out, p4.out, p5, p6, p7, p8⟩)
  have NA4 := Lib.hid ((NA3.out.then p9).then bx)
  have NB4 := Lib.hid ((NB3.out.then p9).then bx)
  have R10 := Lib.hid ((R9.out.below p9).below bx)
  clear p1 p2 p3 p4 p5 p6 p7 p8 p9 bx HC2 X9 R9 NA3 NB3
  go_upto_region 9 with fail
  generalize w10.alloc (.cells #[.int .i64 ((netS (flats (ta ++ tb)) : Nat) : Int), .slice Ca ka ea, .slice Cb kb eb] 25) = w11 at *
  generalize w10.heap.size = gc at *
  have RNA := Lib.hid (run_net HOA.out ts (by rw [HT2.out]; omega))
  have RNB := Lib.hid (run_net HOB.out ts (by rw [HT2.out]; omega))
  have RNC := Lib.hid (run_net HOAB.out ts (by rw [HT2.out]; omega))
  have BOTH := Lib.hid (fst_both ts ta tb)
  have BNB := Lib.hid (fst_from ts tb 0)
  have LC := Lib.hid NA4.out.load
  have HC := NA4.out.run ts At q ct HT2.out (by omega) (by omega) (by omega) R10.out
  rw [RNA.out] at HC
  have HC2 := Lib.hid HC
  clear HC RNA HOA HNA HOB HNB HOAB HNAB HTA HTB HAB
  have HLEN := Lib.hid (show (ta.length : Int) = n0 from by rw [HLA.out])
  have HLEB := Lib.hid (show (tb.length : Int) = n1 from by rw [HLB.out])
  go_wp2_with (refine wpList_load_part 25 3 _ rfl rfl ⟨ga, 0, none⟩ rfl [.int .i64 ((netS (flats ta) : Nat) : Int), .slice Aa na ca, .slice Ab nb cb] (agg_net _) (sz_net _) rfl LC.out ?_)
  refine HC2.out.mono ?_
  rintro e w12 ⟨rfl, hb⟩
  have NB5 := Lib.hid (NB4.out.then hb)
  have NC5 := Lib.hid (NC.out.then hb)
  have R11 := Lib.hid (R10.out.below hb)
  clear hb HC2 LC NA4 NB4 NC R10
  have LC := Lib.hid NB5.out.load
  have HC := NB5.out.run ts At q ct HT2.out (by omega) (by omega) (by omega) R11.out
  rw [RNB.out] at HC
  have HC2 := Lib.hid HC
  clear HC RNB
  dsimp only
  go_wp2_with (refine wpList_load_part 25 3 _ rfl rfl ⟨gb, 0, none⟩ rfl [.int .i64 ((netS (flats tb) : Nat) : Int), .slice Ba ma da, .slice Bb mb db] (agg_net _) (sz_net _) rfl LC.out ?_)
  refine HC2.out.mono ?_
  rintro e w13 ⟨rfl, hb⟩
  have NC6 := Lib.hid (NC5.out.then hb)
  have R12 := Lib.hid (R11.out.below hb)
  clear hb HC2 LC NB5 NC5 R11
  have LC := Lib.hid NC6.out.load
  have HC := NC6.out.run ts At q ct HT2.out (by omega) (by omega) (by omega) R12.out
  rw [RNC.out] at HC
  have HC2 := Lib.hid HC
  clear HC RNC
  dsimp only
  go_wp2_with (refine wpList_load_part 25 3 _ rfl rfl ⟨gc, 0, none⟩ rfl [.int .i64 ((netS (flats (ta ++ tb)) : Nat) : Int), .slice Ca ka ea, .slice Cb kb eb] (agg_net _) (sz_net _) rfl LC.out ?_)
  refine HC2.out.mono ?_
  rintro e w14 ⟨rfl, hb⟩
  have BZ := Lib.hid (bl_trans NC6.out.low hb)
  clear hb HC2 LC NC6 R12
  dsimp only
  generalize fstT ta ts 0 = p at *
  generalize fstT tb ts 0 = r at *
  generalize fstT (ta ++ tb) ts 0 = z at *
  by_cases hp : 0 ≤ p
  · have hz : z = p := BOTH.out.1 hp
    subst hz
    have t1 : decide (0 ≤ z) = true := by simpa using hp
    have t2 : (z == z) = true := by simp
    clear BOTH BNB
    go_wp2_with fail
    exact post_is HQ ⟨rfl, BZ.out⟩
  · have t1 : decide (0 ≤ p) = false := by simpa using hp
    by_cases hr : 0 ≤ r
    · have hz : z = (n0 : Int) + r := by rw [← HLEN.out]; exact BOTH.out.2.1 (by omega) hr
      have hrb : r < (n1 : Int) := by
        have h1 := BNB.out
        have h2 := HLEB.out
        omega
      subst hz
      have t2 : decide (0 ≤ r) = true := by simpa using hr
      have hw : IntKind.i64.wrap ((n0 : Int) + r) = (n0 : Int) + r := IntWalk.i64_in _ (by omega)
      have t3 : ((n0 : Int) + r == (n0 : Int) + r) = true := by simp
      clear BOTH BNB
      go_wp2_with fail
      exact post_is HQ ⟨rfl, BZ.out⟩
    · have hz : z = -1 := BOTH.out.2.2 (by omega) (by omega)
      subst hz
      have t2 : decide (0 ≤ r) = false := by simpa using hr
      clear BOTH BNB
      go_wp2_with fail
      exact post_is HQ ⟨rfl, BZ.out⟩

end Go.Proofs.Ytjibfffefppniaa
