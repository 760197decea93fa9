/- Words of the grammar language: words with blanks between them are cut as these words. No condition. -/
import Derived.Test.YtlepaciglkodbaaDoorWdU
import Derived.SliceStrings
set_option linter.unusedVariables false
set_option linter.unusedSimpArgs false
namespace Go.Proofs.YtlepaciglkodbaaDoor
open Go.RowKit Go.ChangeShapes Go.WideShapes Go.ChangeAt

def RdJ (w : World) (A : Option Addr) (l : List Int) : Prop :=
  0 < l.length → ∃ ad, A = some ad ∧ ∀ j (h : j < l.length), w.cell? (ad.add j) = some (.int .i64 l[j])
theorem RdJ.cell {w : World} {A : Option Addr} {l : List Int} (h : RdJ w A l) {k : Nat} (hk : k < l.length) : ∃ ad, A = some ad ∧ w.cell? (ad.add k) = some (.int .i64 l[k]) := by
  obtain ⟨ad, e, hc⟩ := h (by omega)
  exact ⟨ad, e, hc k hk⟩
theorem RdJ.below {w w' : World} {A : Option Addr} {l : List Int} (h : RdJ w A l) (hb : Below w.heap.size w w') : RdJ w' A l := fun hl => by
  obtain ⟨ad, e, hc⟩ := h hl
  exact ⟨ad, e, fun j hj => (hb.cell (World.block_lt_of_cell? w _ (hc j hj))).trans (hc j hj)⟩

theorem cells_int : Tryd.prog.cellsOf 3 = 1 := by kernel_rfl
theorem bytes_int : Tryd.prog.bytesOf 3 = 8 := by kernel_rfl

/-- An argument of type []int, opened. -/
theorem open_int_list {H : Type} {enc : TypeId × Value → H} {W : World} {base : Nat} {v : Value} {d : DataW H} {p : List MemPlace} (hv : Value.okWide Tryd.prog W .any base 39 v)
    (h0 : DataW.Trod enc Tryd.prog W 0 (fun _ => true) true 39 v d p) (hw : ∀ n ∈ d.weights Tryd.prog 39, n ≤ reachBytes) :
    ∃ A n c l, v = .slice A n c ∧ l.length = n ∧ n ≤ c ∧ c ≤ 140737488351232 ∧ RdJ W A l ∧ ∀ z ∈ l, -9223372036854775808 ≤ z ∧ z ≤ 9223372036854775807 := by
  obtain ⟨A, n, c, rfl⟩ := okWide_slice Tryd.underlying39 hv
  obtain ⟨fuel, hf⟩ := h0
  rcases open_ints Tryd.underlying39 Tryd.underlying3 cells_int hf with ⟨hcs, hx⟩ | ⟨a, len', cap', zs, hcs, _, hl, hm, hz, hx, hcell, hwz⟩
  · simp [Value.cells] at hcs
    obtain ⟨rfl, rfl, rfl⟩ := hcs
    exact ⟨none, 0, 0, [], rfl, rfl, Nat.le_refl _, by omega, (fun h => absurd h (by simp)), by simp⟩
  · simp [Value.cells] at hcs
    obtain ⟨rfl, rfl, rfl⟩ := hcs
    simp only [Prod.mk.injEq] at hx
    obtain ⟨rfl, rfl⟩ := hx
    simp only [if_true] at hz
    have hc : c ≤ 140737488351232 := by
      have := hw (c * 8) (by simp [DataW.weights, Tryd.underlying39, bytes_int, lits]; omega)
      simp [reachBytes] at this
      omega
    refine ⟨some a, n, c, zs.take n, rfl, by simp; omega, hl, hc, fun _ => ⟨a, rfl, fun j hj => ?_⟩, fun z hz' => ?_⟩
    · simp only [List.length_take] at hj
      have hjz : j < zs.length := by omega
      have hg : zs.getD j 0 = zs[j] := by simp [List.getD, hjz]
      rw [hcell j hjz, hg, List.getElem_take]
    · have := hwz z (List.mem_of_mem_take hz')
      simpa [Lit.wf, IntKind.min, IntKind.max, IntKind.signed, IntKind.bits] using this



/-- A slice of texts. -/
def RdS (w : World) (A : Option Addr) (L : List (List UInt8)) : Prop := ∀ i (h : i < L.length), ∃ ad, A = some ad ∧ w.cell? (ad.add i) = some (.string ⟨L[i].toArray⟩)
theorem RdS.below {w w' : World} {A : Option Addr} {L : List (List UInt8)} (h : RdS w A L) (hb : Below w.heap.size w w') : RdS w' A L := fun i hi => by
  obtain ⟨ad, e, hc⟩ := h i hi
  exact ⟨ad, e, (hb.cell (World.block_lt_of_cell? w _ hc)).trans hc⟩
/-- An argument of type []string, opened. -/
theorem open_strl {H : Type} {enc : TypeId × Value → H} {W : World} {base : Nat} {v : Value} {d : DataW H} {p : List MemPlace} (hv : Value.okWide Tryd.prog W .any base 40 v)
    (h0 : DataW.Trod enc Tryd.prog W 0 (fun _ => true) true 40 v d p) :
    ∃ A n c L, v = .slice A n c ∧ L.length = n ∧ n ≤ c ∧ c ≤ maxLen ∧ RdS W A L ∧ ∀ s ∈ L, s.length ≤ maxLen := by
  obtain ⟨A, n, c, rfl⟩ := okWide_slice Tryd.underlying40 hv
  obtain ⟨fuel, hf⟩ := h0
  rcases open_strings Tryd.underlying40 Tryd.underlying9 cellsStr hf with ⟨hcs, hx⟩ | ⟨a, len', cap', ss, hcs, _, hl, hm, hz, hx, hcell, hsz⟩
  · simp [Value.cells] at hcs
    obtain ⟨rfl, rfl, rfl⟩ := hcs
    exact ⟨none, 0, 0, [], rfl, rfl, Nat.le_refl _, by simp [maxLen], (fun i h => absurd h (by simp)), by simp⟩
  · simp [Value.cells] at hcs
    obtain ⟨rfl, rfl, rfl⟩ := hcs
    simp only [if_true] at hz
    refine ⟨some a, n, c, (ss.take n).map (fun s => s.data.toList), rfl, by simp; omega, hl, hm, fun i hi => ⟨a, rfl, ?_⟩, fun s hs => ?_⟩
    · simp only [List.length_map, List.length_take] at hi
      have hiz : i < ss.length := by omega
      have hg : ss.getD i ByteArray.empty = ss[i] := by simp [List.getD, hiz]
      rw [hcell i hiz, hg, List.getElem_map, List.getElem_take]
    · obtain ⟨x, hx, rfl⟩ := List.mem_map.1 hs
      have := hsz x (List.mem_of_mem_take hx)
      show x.data.toList.length ≤ maxLen
      rw [Array.length_toList]
      exact this

theorem own_ne {w : World} {b1 b2 : Nat} {v v' : Value} {l : List UInt8} {l' : List Tk} (h1 : Own w b1 v l) (h2 : OwnT w b2 v' l') : (v.ownBlock = none ∨ v.ownBlock ≠ v'.ownBlock) ∧ (v'.ownBlock = none ∨ v'.ownBlock ≠ v.ownBlock) := by
  rcases h1.2 with ⟨rfl, _⟩ | ⟨g, cap, cur, rfl, _, hg, _⟩
  · refine ⟨Or.inl rfl, ?_⟩
    cases hv : v'.ownBlock with
    | none => exact Or.inl rfl
    | some k => exact Or.inr (by simp [Value.ownBlock])
  · rcases h2.2 with ⟨rfl, _⟩ | ⟨g', cap', cur', rfl, _, hg', _⟩
    · exact ⟨Or.inr (by simp [Value.ownBlock]), Or.inl rfl⟩
    · have hne : g ≠ g' := by
        intro e
        subst e
        rw [hg] at hg'
        have h9 := Option.some.inj hg'
        injection h9 with _ h8 _
        exact absurd h8 (by decide)
      exact ⟨Or.inr (by simpa [Value.ownBlock] using hne), Or.inr (by simpa [Value.ownBlock] using fun e => hne e.symm)⟩

/-- What stands between words. -/
def septE : Nat → List UInt8
  | 0 => [32]
  | 1 => [9]
  | 2 => [10]
  | 3 => [13, 10]
  | _ => [32, 35, 32, 61, 32, 34, 32, 47, 10]
theorem sept_gap (j : Nat) : gapST false (septE j) = some false := by
  match j with
  | 0 => rfl
  | 1 => rfl
  | 2 => rfl
  | 3 => rfl
  | n + 4 => rfl
theorem sept_len (j : Nat) : 1 ≤ (septE j).length ∧ (septE j).length ≤ 9 := by
  match j with
  | 0 => decide
  | 1 => decide
  | 2 => decide
  | 3 => decide
  | n + 4 => show 1 ≤ ([32, 35, 32, 61, 32, 34, 32, 47, 10] : List UInt8).length ∧ ([32, 35, 32, 61, 32, 34, 32, 47, 10] : List UInt8).length ≤ 9; decide
theorem sept_cells (W : World) (t : TypeId) (j : Nat) (hj : j < 5) : (W.alloc (.cells #[.string ⟨#[32]⟩, .string ⟨#[9]⟩, .string ⟨#[10]⟩, .string ⟨#[13, 10]⟩, .string ⟨#[32, 35, 32, 61, 32, 34, 32, 47, 10]⟩] t)).cell? ⟨W.heap.size, j, none⟩ = some (.string ⟨(septE j).toArray⟩) := by
  rw [cell_of_row _ W.heap.size j _ _ _ (heap_alloc_new W _)]
  match j, hj with
  | 0, _ => rfl
  | 1, _ => rfl
  | 2, _ => rfl
  | 3, _ => rfl
  | 4, _ => rfl
/-- These bytes are these words, and what may stand between them. -/
def JoinP (acc : List UInt8) (ts : List Tk) : Prop := ∀ y, cutS (acc ++ y) 0 0 false = (cutS y acc.length 0 false).app ts
theorem join_nil : JoinP [] [] := fun y => by simp [CutR.app_nil]
theorem join_more {acc : List UInt8} {ts : List Tk} (h : JoinP acc ts) {u : List UInt8} {k : Nat} (hu : WordOK u k) (j : Nat) : JoinP (acc ++ (u ++ septE j)) (ts ++ [⟨k, acc.length, acc.length + u.length⟩]) := fun y => by
  have hg := sept_gap j
  have hne : septE j ≠ [] := List.length_pos_iff.1 (sept_len j).1
  have hns : NotLt (septE j ++ y) := (gap_first hg rfl).app (fun e => absurd e hne)
  have e : acc ++ (u ++ septE j) ++ y = acc ++ (u ++ (septE j ++ y)) := by simp
  rw [e, h, hu.first (fun _ => hns), gap_run _ _ _ _ _ hg, CutR.app_app]
  simp [Nat.add_assoc]
theorem join_end {acc : List UInt8} {ts : List Tk} (h : JoinP acc ts) : cutE acc = .ok ts := by
  have := h []
  rw [List.append_nil] at this
  unfold cutE
  rw [this]
  simp [cutS, CutR.app]


set_option maxRecDepth 20000 in
set_option maxHeartbeats 4000000 in
theorem join_walk (A : Option Addr) (n c : Nat) (l : List Int) (At : Option Addr) (nt ct : Nat) (L : List (List UInt8)) (w : World) (hT : Tab w) (hl : l.length = n) (hnc : n ≤ c) (hcm : c ≤ 140737488351232) (hr : RdJ w A l) (h64 : ∀ z ∈ l, -9223372036854775808 ≤ z ∧ z ≤ 9223372036854775807)
    (hlt : L.length = nt) (hnct : nt ≤ ct) (hct : ct ≤ maxLen) (hrt : RdS w At L) (hLm : ∀ s ∈ L, s.length ≤ maxLen) : Calls Tryd.prog 7 #[.slice A n c, .slice At nt ct] w (Yes w) := by
  generalize hQ : Yes w = Q
  have HQ := Lib.hid hQ
  have HR0 := Lib.hid hr
  have HRT := Lib.hid hrt
  have HL := Lib.hid hl
  have HLT := Lib.hid hlt
  have HLM := Lib.hid hLm
  have H64 := Lib.hid h64
  unfold maxLen at hct
  clear hQ hr hrt hl hlt hLm h64
  go_enter Tryd.func7, Tryd.ntmps7
  go_wp2_with fail
  go_loopw [5, 6, 7, 8, 9, 10] (fun v5 v6 v7 _ _ _ wr => ∃ (i : Nat) (acc : List UInt8) (ts : List Tk), i ≤ n ∧ i ≤ 100 ∧ v7 = .int .i64 (i : Int) ∧ Own wr w.heap.size v5 acc ∧ OwnT wr w.heap.size v6 ts ∧ acc.length ≤ 57 * i ∧ ts.length ≤ i ∧ Hid (JoinP acc ts) ∧ Below w.heap.size w wr) (fun _ _ v7 _ _ _ _ => 100 - (intOf v7).toNat)
  case atStart => exact ⟨0, [], [], Nat.zero_le _, Nat.zero_le _, rfl, Own.nil _ _, OwnT.nil _ _, by simp, by simp, join_nil, Below.refl _ _⟩
  case round =>
    obtain ⟨i, acc, ts, hi, hi1, rfl, hob, hot, hacc, hts, HJP, hbw⟩ := hrel
    have HOB := Lib.hid hob
    have HOT := Lib.hid hot
    have HB := Lib.hid hbw
    have hTw := hT.below hbw
    by_cases hin : i < n ∧ i < 100
    · obtain ⟨hin1, hin2⟩ := hin
      have bl : decide (i < n) = true := by simp [hin1]
      have bl2 : decide ((i : Int) < 100) = true := by simp; omega
      have hil : i < l.length := by rw [HL.out]; exact hin1
      obtain ⟨ad, hA, hzc⟩ := (HR0.out.below hbw).cell hil
      subst hA
      obtain ⟨hz1, hz2⟩ := H64.out l[i] (List.getElem_mem hil)
      obtain ⟨z, hzi⟩ : ∃ z, l[i] = z := ⟨_, rfl⟩
      rw [hzi] at hzc hz1 hz2
      obtain ⟨j5, hj5, HJ5⟩ := bring_to z 5 5 rfl hz1 hz2 (by omega) (by omega)
      clear hob hot hbw
      by_cases hnt : nt = 0
      · subst hnt
        have HSL : Hid (([] : List UInt8).length ≤ 40) := by unfold Hid; simp
        have hmn : ∀ (ts : Array TypeId) (t : TypeId) (W : World), (Builtin.min_ ts t #[.int .i64 0, .int .i64 40]).run Tryd.prog W = .ok (.int .i64 0) W := fun ts t W => by
          rw [run_min_int2]; rfl
        go_wp2_with fail
        refine (written_any z [] _ hTw HSL.out hz1 hz2).mono ?_
        rintro e w2 ⟨u, k, rfl, hu, hul, hb2⟩
        have HU := Lib.hid hu
        have HB2 := Lib.hid (bl_trans HB.out hb2)
        have ho2 := HOB.out.below hb2
        have ht2 := HOT.out.below hb2
        have hsz2 := HB2.out.size
        have hne2 := own_ne ho2 ht2
        obtain ⟨Ab, nb, cb, rfl, HNB, _, _, _⟩ := ho2.form
        have hnbl : nb = acc.length := HNB.out.symm
        obtain ⟨M, hM⟩ : ∃ M, nb + u.length = M := ⟨_, rfl⟩
        have hMw : wrap64 ((nb : Int) + (u.length : Int)) = (M : Int) := by rw [IntWalk.wrap64_in _ ⟨by omega, by omega⟩]; omega
        have hlu := fun ty => len_at u #[9] ty rfl
        have hbt := fun f t => built_tk (k : Int) f t
        have HT2 := Lib.hid (World.ownsRow.alloc ht2 (.cells #[.int .i64 (k : Int), .int .i64 (nb : Int), .int .i64 (M : Int)] 36))
        have HO2 := Lib.hid ho2
        have HTL := Lib.hid (fun k hk => (World.ownsRow.lt ht2 k hk).1)
        have HNE2 := Lib.hid hne2
        have HMM := Lib.hid hM
        have hulen := hul
        generalize hul2 : u.length = ul at *
        have HULE := Lib.hid hul2
        clear hu hb2 ho2 ht2 hne2 hM hul2 hnbl
        go_wp2_with (at_builtin; refine wpList_append_tk _ rfl _ _ rfl w.heap.size _ ts rfl HT2.out ⟨w2.heap.size, 0, none⟩ ⟨k, nb, M⟩ rfl (cells_one _ _ _ _) (by omega) (by simp; omega) ?_)
        intro v6' w3 ht3 hg3 _
        have hb3 := bl_grown (bl_alloc HB2.out _) hg3 (fun k hk => HTL.out k hk)
        have ho3 := (HO2.out.alloc (.cells #[.int .i64 (k : Int), .int .i64 (nb : Int), .int .i64 (M : Int)] 36)).kept hg3 HNE2.out.1
        have hne3 := own_ne ho3 ht3
        obtain ⟨ad3, hA3, hz3⟩ := (HR0.out.below hb3).cell hil
        obtain rfl := Option.some.inj hA3
        have hsc := sept_cells w3 9 j5 hj5
        have hz3' := (World.cell?_alloc_lt w3 (.cells #[.string ⟨#[32]⟩, .string ⟨#[9]⟩, .string ⟨#[10]⟩, .string ⟨#[13, 10]⟩, .string ⟨#[32, 35, 32, 61, 32, 34, 32, 47, 10]⟩] 9) _ (World.block_lt_of_cell? w3 _ hz3)).trans hz3
        rw [hzi] at hz3'
        have hadd := fun W => add_strs W u (septE j5) (by rw [HULE.out]; omega) (by have := (sept_len j5).2; omega)
        have HO3 := Lib.hid (ho3.alloc (.cells #[.string ⟨#[32]⟩, .string ⟨#[9]⟩, .string ⟨#[10]⟩, .string ⟨#[13, 10]⟩, .string ⟨#[32, 35, 32, 61, 32, 34, 32, 47, 10]⟩] 9))
        have HT3 := Lib.hid (World.ownsRow.alloc ht3 (.cells #[.string ⟨#[32]⟩, .string ⟨#[9]⟩, .string ⟨#[10]⟩, .string ⟨#[13, 10]⟩, .string ⟨#[32, 35, 32, 61, 32, 34, 32, 47, 10]⟩] 9))
        have HB3 := Lib.hid (bl_alloc hb3 (.cells #[.string ⟨#[32]⟩, .string ⟨#[9]⟩, .string ⟨#[10]⟩, .string ⟨#[13, 10]⟩, .string ⟨#[32, 35, 32, 61, 32, 34, 32, 47, 10]⟩] 9))
        have HNE3 := Lib.hid hne3
        have HSE := Lib.hid (sept_len j5)
        have HJM := Lib.hid (join_more HJP.out HU.out j5)
        have hlen5 : (u ++ septE j5).length ≤ 57 := by rw [List.length_append, HULE.out]; have := HSE.out; omega
        have HLEN5 := Lib.hid hlen5
        clear ho3 ht3 hg3 hb3 hne3 hz3 hlen5
        generalize u ++ septE j5 = us at *
        go_wp2_with fail
        refine (HJ5.out _).mono ?_
        rintro e w' ⟨rfl, hw'⟩
        subst hw'
        go_wp2_with (at_builtin; refine wpList_append_str _ rfl _ _ rfl w.heap.size _ acc rfl HO3.out us rfl (by have := HLEN5.out; omega) HB3.out.size ?_)
        intro v5' w4 ho4 hg4
        have HB4 := Lib.hid (bl_grown HB3.out hg4 (fun k hk => (World.ownsRow.lt HO3.out k hk).1))
        have HT4 := Lib.hid (World.ownsRow.kept HT3.out hg4 HNE3.out.2)
        have HO4 := Lib.hid ho4
        clear ho4 hg4 hsc hz3' hadd
        go_wp2_with fail
        go_roundw
        case rel =>
          refine ⟨i + 1, acc ++ us, ts ++ [⟨k, nb, M⟩], by omega, by omega, by go_num, HO4.out, ?_, ?_, ?_, ?_, HB4.out⟩
          · show World.ownsRow _ _ _ _ _ _ _
            exact HT4.out
          · have := HLEN5.out; simp only [List.length_append]; omega
          · simp; omega
          · unfold Hid
            have h9 := HJM.out
            rw [HULE.out] at h9
            have e1 : nb = acc.length := HNB.out.symm
            rw [← HMM.out, e1]
            exact h9
        case measure => simp [intOf]; omega
      · obtain ⟨jt, hjt, HJT⟩ := bring_to z nt (nt : Int) rfl hz1 hz2 (by omega) (by omega)
        have hjl : jt < L.length := by rw [HLT.out]; exact hjt
        obtain ⟨adt, hAt, hsc0⟩ := HRT.out.below HB.out jt hjl
        subst hAt
        have hsm := HLM.out L[jt] (List.getElem_mem hjl)
        have bnt : decide ((0 : Int) < (nt : Int)) = true := by simp; omega
        obtain ⟨s, hs⟩ : ∃ s, L[jt] = s := ⟨_, rfl⟩
        rw [hs] at hsc0 hsm
        obtain ⟨m, HMIN, hm1, hm2, hmin⟩ := min_lit s.length 40 40 rfl
        have hto := to_at s m hm1 (m : Int) rfl
        have hls := fun ty => len_at s #[9] ty rfl
        have HSL : Hid ((s.take m).length ≤ 40) := by unfold Hid; rw [List.length_take]; omega
        clear hs hjl
        generalize s.take m = st at *
        go_wp2_with fail
        refine (HJT.out _).mono ?_
        rintro e w' ⟨rfl, hw'⟩
        subst hw'
        go_wp2_with fail
        refine (written_any z st _ hTw HSL.out hz1 hz2).mono ?_
        rintro e w2 ⟨u, k, rfl, hu, hul, hb2⟩
        have HU := Lib.hid hu
        have HB2 := Lib.hid (bl_trans HB.out hb2)
        have ho2 := HOB.out.below hb2
        have ht2 := HOT.out.below hb2
        have hsz2 := HB2.out.size
        have hne2 := own_ne ho2 ht2
        obtain ⟨Ab, nb, cb, rfl, HNB, _, _, _⟩ := ho2.form
        have hnbl : nb = acc.length := HNB.out.symm
        obtain ⟨M, hM⟩ : ∃ M, nb + u.length = M := ⟨_, rfl⟩
        have hMw : wrap64 ((nb : Int) + (u.length : Int)) = (M : Int) := by rw [IntWalk.wrap64_in _ ⟨by omega, by omega⟩]; omega
        have hlu := fun ty => len_at u #[9] ty rfl
        have hbt := fun f t => built_tk (k : Int) f t
        have HT2 := Lib.hid (World.ownsRow.alloc ht2 (.cells #[.int .i64 (k : Int), .int .i64 (nb : Int), .int .i64 (M : Int)] 36))
        have HO2 := Lib.hid ho2
        have HTL := Lib.hid (fun k hk => (World.ownsRow.lt ht2 k hk).1)
        have HNE2 := Lib.hid hne2
        have HMM := Lib.hid hM
        have hulen := hul
        generalize hul2 : u.length = ul at *
        have HULE := Lib.hid hul2
        clear hu hb2 ho2 ht2 hne2 hM hul2 hnbl
        go_wp2_with (at_builtin; refine wpList_append_tk _ rfl _ _ rfl w.heap.size _ ts rfl HT2.out ⟨w2.heap.size, 0, none⟩ ⟨k, nb, M⟩ rfl (cells_one _ _ _ _) (by omega) (by simp; omega) ?_)
        intro v6' w3 ht3 hg3 _
        have hb3 := bl_grown (bl_alloc HB2.out _) hg3 (fun k hk => HTL.out k hk)
        have ho3 := (HO2.out.alloc (.cells #[.int .i64 (k : Int), .int .i64 (nb : Int), .int .i64 (M : Int)] 36)).kept hg3 HNE2.out.1
        have hne3 := own_ne ho3 ht3
        obtain ⟨ad3, hA3, hz3⟩ := (HR0.out.below hb3).cell hil
        obtain rfl := Option.some.inj hA3
        have hsc := sept_cells w3 9 j5 hj5
        have hz3' := (World.cell?_alloc_lt w3 (.cells #[.string ⟨#[32]⟩, .string ⟨#[9]⟩, .string ⟨#[10]⟩, .string ⟨#[13, 10]⟩, .string ⟨#[32, 35, 32, 61, 32, 34, 32, 47, 10]⟩] 9) _ (World.block_lt_of_cell? w3 _ hz3)).trans hz3
        rw [hzi] at hz3'
        have hadd := fun W => add_strs W u (septE j5) (by rw [HULE.out]; omega) (by have := (sept_len j5).2; omega)
        have HO3 := Lib.hid (ho3.alloc (.cells #[.string ⟨#[32]⟩, .string ⟨#[9]⟩, .string ⟨#[10]⟩, .string ⟨#[13, 10]⟩, .string ⟨#[32, 35, 32, 61, 32, 34, 32, 47, 10]⟩] 9))
        have HT3 := Lib.hid (World.ownsRow.alloc ht3 (.cells #[.string ⟨#[32]⟩, .string ⟨#[9]⟩, .string ⟨#[10]⟩, .string ⟨#[13, 10]⟩, .string ⟨#[32, 35, 32, 61, 32, 34, 32, 47, 10]⟩] 9))
        have HB3 := Lib.hid (bl_alloc hb3 (.cells #[.string ⟨#[32]⟩, .string ⟨#[9]⟩, .string ⟨#[10]⟩, .string ⟨#[13, 10]⟩, .string ⟨#[32, 35, 32, 61, 32, 34, 32, 47, 10]⟩] 9))
        have HNE3 := Lib.hid hne3
        have HSE := Lib.hid (sept_len j5)
        have HJM := Lib.hid (join_more HJP.out HU.out j5)
        have hlen5 : (u ++ septE j5).length ≤ 57 := by rw [List.length_append, HULE.out]; have := HSE.out; omega
        have HLEN5 := Lib.hid hlen5
        clear ho3 ht3 hg3 hb3 hne3 hz3 hlen5
        generalize u ++ septE j5 = us at *
        go_wp2_with fail
        refine (HJ5.out _).mono ?_
        rintro e w' ⟨rfl, hw'⟩
        subst hw'
        go_wp2_with (at_builtin; refine wpList_append_str _ rfl _ _ rfl w.heap.size _ acc rfl HO3.out us rfl (by have := HLEN5.out; omega) HB3.out.size ?_)
        intro v5' w4 ho4 hg4
        have HB4 := Lib.hid (bl_grown HB3.out hg4 (fun k hk => (World.ownsRow.lt HO3.out k hk).1))
        have HT4 := Lib.hid (World.ownsRow.kept HT3.out hg4 HNE3.out.2)
        have HO4 := Lib.hid ho4
        clear ho4 hg4 hsc hz3' hadd
        go_wp2_with fail
        go_roundw
        case rel =>
          refine ⟨i + 1, acc ++ us, ts ++ [⟨k, nb, M⟩], by omega, by omega, by go_num, HO4.out, ?_, ?_, ?_, ?_, HB4.out⟩
          · show World.ownsRow _ _ _ _ _ _ _
            exact HT4.out
          · have := HLEN5.out; simp only [List.length_append]; omega
          · simp; omega
          · unfold Hid
            have h9 := HJM.out
            rw [HULE.out] at h9
            have e1 : nb = acc.length := HNB.out.symm
            rw [← HMM.out, e1]
            exact h9
        case measure => simp [intOf]; omega
    · have bl : (decide (i < n) && decide ((i : Int) < 100)) = false := by
        rw [Bool.and_eq_false_iff]
        by_cases h : i < n
        · right; simp; omega
        · left; simp; omega
      have HE := Lib.hid (join_end HJP.out)
      obtain ⟨Ab, nb, cb, rfl, HNB, hbn, hbc, hrb⟩ := hob.form
      have hnb8 : nb ≤ 8192 := by rw [← HNB.out]; omega
      have hcu := cut_any Ab nb cb acc wr HNB.out hrb (by omega) hTw
      have ha : ansE acc = (ts, 0, 0) := by unfold ansE; rw [if_neg (by rw [HNB.out]; omega), HE.out]
      rw [ha] at hcu
      have HCU := Lib.hid hcu
      obtain ⟨Aw, nw, cw, rfl, HNW, _, _, hrw⟩ := hot.shape
      have HRW := Lib.hid hrw
      clear ha hcu hob hot hbw hrb hrw
      rcases (by omega : (¬ i < n) ∨ (i < n ∧ i = 100)) with h | ⟨h, h2⟩
      · have d1 : decide (i < n) = false := by simp; omega
        clear bl
        go_wp2_with fail
        refine HCU.out.mono ?_
        rintro e w2 ⟨v2, rfl, ho2, hb2⟩
        obtain ⟨A2, n2, c2, rfl, HN2, _, _, hr2⟩ := ho2.shape
        have hrw2 := HRW.out.below hb2
        have HB2 := Lib.hid (bl_trans HB.out hb2)
        clear ho2 hb2
        go_wp2_with fail
        refine (same_yes A2 Aw n2 c2 nw cw ts w2 HN2.out HNW.out hr2 hrw2 (by have : ts.length = n2 := HN2.out; omega)).mono ?_
        rintro e w3 ⟨rfl, hb3⟩
        have HB3 := Lib.hid (bl_trans HB2.out hb3)
        have hT3 := hT.below HB3.out
        clear hb3 hr2 hrw2
        go_wp2_with fail
        refine (awake_any _ hT3).mono ?_
        rintro e w4 ⟨rfl, hb4⟩
        go_wp2_with fail
        exact post_is HQ ⟨rfl, bl_trans HB3.out hb4⟩
      · have d1 : decide (i < n) = true := by simp [h]
        subst h2
        clear bl
        go_wp2_with fail
        refine HCU.out.mono ?_
        rintro e w2 ⟨v2, rfl, ho2, hb2⟩
        obtain ⟨A2, n2, c2, rfl, HN2, _, _, hr2⟩ := ho2.shape
        have hrw2 := HRW.out.below hb2
        have HB2 := Lib.hid (bl_trans HB.out hb2)
        clear ho2 hb2
        go_wp2_with fail
        refine (same_yes A2 Aw n2 c2 nw cw ts w2 HN2.out HNW.out hr2 hrw2 (by have : ts.length = n2 := HN2.out; omega)).mono ?_
        rintro e w3 ⟨rfl, hb3⟩
        have HB3 := Lib.hid (bl_trans HB2.out hb3)
        have hT3 := hT.below HB3.out
        clear hb3 hr2 hrw2
        go_wp2_with fail
        refine (awake_any _ hT3).mono ?_
        rintro e w4 ⟨rfl, hb4⟩
        go_wp2_with fail
        exact post_is HQ ⟨rfl, bl_trans HB3.out hb4⟩

end Go.Proofs.YtlepaciglkodbaaDoor
