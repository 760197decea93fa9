/- The document's behind: those to which edges lead by a byte, told by marks. -/
import Derived.Test.YtjibfffefppniaaGreatRfBM
set_option linter.unusedVariables false
set_option linter.unusedSimpArgs false
namespace Go.Proofs.YtjibfffefppniaaGreat
open Go.RowKit
attribute [local go_sem] Oper.semAt_some

set_option maxHeartbeats 2000000 in
set_option maxRecDepth 20000 in
theorem rhas_any (f : Nat → BitVec 64) (c : Nat) (hc : c < 256) (w : World) :
    Calls Tryz.prog 54 #[.agg (row4 f), .int .u8 (c : Int)] w (GotB w (has f c)) := by
  go_enter Tryz.func54, Tryz.ntmps54
  obtain ⟨q, hq⟩ : ∃ q, c / 64 = q := ⟨_, rfl⟩
  obtain ⟨r, hr⟩ : ∃ r, c % 64 = r := ⟨_, rfl⟩
  have hq4 : q < 4 := by omega
  have hr4 : r < 64 := by omega
  have eq1 : (c : Int) / 64 = (q : Int) := by omega
  have er1 : (c : Int) % 64 = (r : Int) := by omega
  have hb := bit_of (f q) r
  have hh : has f c = (f q).getLsbD r := by unfold has; rw [hq, hr]
  have hA := (H4.new w f)
  have hc1 := hA.cell hq4
  have HB := Lib.hid hb
  have HH := Lib.hid hh
  clear hA hb hh hq hr
  go_wp2
  go_ret
  rw [HB.out, HH.out]
  exact ⟨rfl, bl_alloc (Below.refl _ _) _⟩
theorem rhas_words (z0 z1 z2 z3 : BitVec 64) (c : Nat) (hc : c < 256) (w : World) :
    Calls Tryz.prog 54 #[.agg #[.int .u64 (z0.toNat : Int), .int .u64 (z1.toNat : Int), .int .u64 (z2.toNat : Int), .int .u64 (z3.toNat : Int)], .int .u8 (c : Int)] w (GotB w (hasS ⟨z0, z1, z2, z3⟩ c)) :=
  rhas_any (S4.mk z0 z1 z2 z3).f c hc w
def marks0 (n : Nat) : Array Value := ((List.replicate n false).map Value.bool).toArray
theorem make_marks (n : Nat) (z : Int) (hz : (n : Int) = z) (hn : n ≤ 100000) (W : World) :
    (Instr.makeSlice 64 (.int .i64 z) (.int .i64 z)).run Tryz.prog W = .ok (.slice (some ⟨W.heap.size, 0, none⟩) n n) (W.alloc (.cells (marks0 n) 4)) := by
  subst hz
  obtain ⟨i, hi, hz, hs, hb⟩ := info_parts info_bool
  rw [run_make (P := Tryz.prog) W 64 4 i (.bool false) Tryz.underlying64 hi hz .i64 .i64 n n (by omega) (Int.le_refl _) (by rw [hb]; omega) (by omega), hs]
  have e : (Value.bool false).cells = #[Value.bool false] := rfl
  have e2 : madeCells #[Value.bool false] n = marks0 n := by
    unfold madeCells marks0
    apply Array.ext
    · simp
    · intro i h1 h2
      simp [Nat.mod_one]
  rw [e, Int.toNat_natCast, Nat.mul_one, e2]
theorem own_marks (w : World) (n : Nat) (hn : n ≤ 100000) : OwnQ (w.alloc (.cells (marks0 n) 4)) w.heap.size (.slice (some ⟨w.heap.size, 0, none⟩) n n) (List.replicate n false) := by
  unfold OwnQ
  rw [List.length_replicate]
  refine ⟨by simp, .inr ⟨w.heap.size, n, _, rfl, Nat.le_refl _, heap_alloc_new w _, Nat.le_refl _, by simp only [maxLen]; omega, by simp [marks0], ?_⟩⟩
  unfold marks0
  rw [List.take_of_length_le (by simp)]
theorem trues_none (n : Nat) : trues (List.replicate n false) = [] := by
  unfold trues
  rw [List.filter_eq_nil_iff]
  intro x hx
  have : x < n := by simpa using hx
  simp [List.getD, this]
/-- What the edges so far tell. -/
def BehTo (E : List Ed) (c : Nat) (bs cs : List Bool) (k : Nat) : Prop := ∀ x, x ∈ trues cs ↔ ∃ e ∈ E.take k, e.free = false ∧ e.fr.toNat ∈ trues bs ∧ hasS e.set c = true ∧ x = e.tn
theorem beh_next {E : List Ed} {c : Nat} {bs cs : List Bool} {k : Nat} (hk : k < E.length) (h : BehTo E c bs cs k) : (¬ (E[k].free = false ∧ E[k].fr.toNat ∈ trues bs ∧ hasS E[k].set c = true) → BehTo E c bs cs (k + 1)) ∧
    (E[k].free = false ∧ E[k].fr.toNat ∈ trues bs ∧ hasS E[k].set c = true → ∀ y, y = E[k].tn → y < cs.length → BehTo E c bs (cs.set y true) (k + 1)) := by
  constructor
  · intro hn x
    rw [h x, List.take_succ_eq_append_getElem hk]
    constructor
    · rintro ⟨e, he, h2⟩
      exact ⟨e, List.mem_append_left _ he, h2⟩
    · rintro ⟨e, he, h2⟩
      rw [List.mem_append, List.mem_singleton] at he
      rcases he with he | rfl
      · exact ⟨e, he, h2⟩
      · exact absurd ⟨h2.1, h2.2.1, h2.2.2.1⟩ hn
  · intro hy y hyt hyl x
    rw [trues_set hyl, h x, List.take_succ_eq_append_getElem hk]
    constructor
    · rintro (⟨e, he, h2⟩ | rfl)
      · exact ⟨e, List.mem_append_left _ he, h2⟩
      · exact ⟨E[k], List.mem_append_right _ (List.mem_singleton_self _), hy.1, hy.2.1, hy.2.2, hyt⟩
    · rintro ⟨e, he, h2⟩
      rw [List.mem_append, List.mem_singleton] at he
      rcases he with he | rfl
      · exact Or.inl ⟨e, he, h2⟩
      · exact Or.inr (h2.2.2.2.trans hyt.symm)
theorem beh_done {E : List Ed} {S c : Nat} {bs cs : List Bool} (hE : EdN S E) (hc : c < 256) (h : BehTo E c bs cs E.length) (x : Nat) : x ∈ trues cs ↔ x ∈ behE E c (trues bs) := by
  rw [h x, List.take_length, mem_beh]
  constructor
  · rintro ⟨e, he, h1, h2, h3, h4⟩
    obtain ⟨a, b, _⟩ := hE e he
    exact ⟨e.fr.toNat, h2, e, he, by omega, h3, h4⟩
  · rintro ⟨s, hs, e, he, h1, h2, h3⟩
    obtain ⟨a, b, _, _, f⟩ := hE e he
    refine ⟨e, he, ?_, by rw [h1]; exact hs, h2, h3⟩
    cases hf : e.free with
    | false => rfl
    | true =>
      unfold byE at h2
      rw [f hf, has_nilS c hc] at h2
      cases h2

set_option maxRecDepth 100000 in
set_option maxHeartbeats 16000000 in
theorem rbehind_any' (s : Nat) (E : List Ed) (bs : List Bool) (ch : Nat) (hch : ch < 256) (Ae A : Option Addr) (ne ce n c : Nat) (hne : E.length = ne) (hm1 : ne ≤ 140737488355328) (hE : EdN s E) (s1 : 1 ≤ s) (s2 : s ≤ 2048) (hbs : bs.length = s) (hn : bs.length = n) (W : World) (hr : RdE W Ae E) (hb : RdQ W A bs) (Ax : Option Addr) (nx cx : Nat) :
    Calls Tryz.prog 36 #[.agg #[.int .i64 (s : Int), .slice Ae ne ce, .slice Ax nx cx], .slice A n c, .int .u8 (ch : Int)] W (GotQ W s (fun x => x ∈ behE E ch (trues bs))) := by
  generalize hQ : GotQ W s (fun x => x ∈ behE E ch (trues bs)) = Q
  have HQ := Lib.hid hQ
  have b0 := bl_alloc (Below.refl W.heap.size W) (.cells #[.int .i64 (s : Int), .slice Ae ne ce, .slice Ax nx cx] 29)
  have k0 := heap_alloc_new W (.cells #[.int .i64 (s : Int), .slice Ae ne ce, .slice Ax nx cx] 29)
  have HE := Lib.hid (hr.below b0)
  have HB := Lib.hid (hb.below b0)
  have HNE := Lib.hid hne
  have HBS := Lib.hid hbs
  have HED := Lib.hid hE
  have B0 := Lib.hid b0
  have K0 := Lib.hid k0
  have hns : n = s := by omega
  clear hQ hr hb hne hbs hn hE b0 k0
  subst hns
  go_enter Tryz.func36, Tryz.ntmps36
  go_upto_region 1 with fail
  generalize W.alloc (.cells #[.int .i64 (n : Int), .slice Ae ne ce, .slice Ax nx cx] 29) = w0 at *
  generalize hg : W.heap.size = g at *
  have HG := Lib.hid hg
  have HGL := Lib.hid (Array.getElem?_eq_some_iff.1 K0.out).1
  have q0 := cell_of_row w0 g 0 _ _ _ K0.out
  obtain ⟨q, hq⟩ : ∃ q, w0.heap.size = q := ⟨_, rfl⟩
  have HQ0 := Lib.hid hq
  have hq1 : w0.heap.size ≤ q := by omega
  have hmk := make_marks n (n : Int) rfl (by omega) w0
  rw [hq] at hmk
  have o1 := own_marks w0 n (by omega)
  conv at o1 => arg 3; rw [hq]
  have B1 := Lib.hid (bl_alloc (Below.refl w0.heap.size w0) (.cells (marks0 n) 4))
  have O1 := Lib.hid o1
  clear hg hq o1
  go_upto_region 2 with fail
  generalize w0.alloc (.cells (marks0 n) 4) = w1 at *
  clear hmk q0
  have HQ1 := Lib.hid hq1
  clear hq1
  go_wp2_with fail
  go_loopw [8] (fun iv wr => ∃ (i : Nat) (cs : List Bool), iv = .int .i64 (i : Int) ∧ i ≤ ne ∧ Hid (cs.length = n) ∧ Hid (BehTo E ch bs cs i) ∧ Hid (OwnQ wr w0.heap.size (.slice (some ⟨q, 0, none⟩) n n) cs) ∧ Hid (Below w0.heap.size w0 wr)) (fun iv _ => ne - (intOf iv).toNat)
  case atStart => exact ⟨0, List.replicate n false, rfl, Nat.zero_le _, List.length_replicate, (fun x => by rw [trues_none]; simp), O1, B1⟩
  case round =>
    obtain ⟨i, cs, rfl, hi, HLC, HBT, OC, BC⟩ := hrel
    clear O1 B1
    have KR := Lib.hid ((BC.out.block g HGL.out).trans K0.out)
    have q1 := cell_of_row wr g 1 _ _ _ KR.out
    by_cases hlt : i < ne
    · have hil : i < E.length := by rw [HNE.out]; exact hlt
      obtain ⟨ad, hA, hcs⟩ := (HE.out.below BC.out) i hil
      subst hA
      obtain ⟨f1, f2, f3, f4, _⟩ := HED.out E[i] (List.getElem_mem hil)
      have HNX := Lib.hid (beh_next hil HBT.out)
      generalize E[i] = e at *
      obtain ⟨efr, eto, ⟨z0, z1, z2, z3⟩, fr⟩ := e
      dsimp only at f1 f2 f3 f4
      obtain ⟨x, rfl⟩ : ∃ x : Nat, efr = (x : Int) := ⟨efr.toNat, by omega⟩
      obtain ⟨y, rfl⟩ : ∃ y : Nat, eto = (y : Int) := ⟨eto.toNat, by omega⟩
      have HNX := Lib.hid (show (¬ (fr = false ∧ x ∈ trues bs ∧ hasS ⟨z0, z1, z2, z3⟩ ch = true) → BehTo E ch bs cs (i + 1)) ∧ (fr = false ∧ x ∈ trues bs ∧ hasS ⟨z0, z1, z2, z3⟩ ch = true → BehTo E ch bs (cs.set y true) (i + 1)) from
        ⟨HNX.out.1, fun h => HNX.out.2 h y (by unfold Ed.tn; simp) (by rw [HLC.out]; omega)⟩)
      have hx : x < n := by omega
      have hy : y < n := by omega
      have LX := Lib.hid (show ∀ j u, [Value.int .i64 (x : Int), .int .i64 (y : Int), .int .u64 (z0.toNat : Int), .int .u64 (z1.toNat : Int), .int .u64 (z2.toNat : Int), .int .u64 (z3.toNat : Int), .bool fr][j]? = some u → wr.cell? ((ad.add (i * 7)).add j) = some u from hcs)
      clear hcs f1 f2 f3 f4 hil
      go_upto_region 6 with (refine wpList_load_part 39 7 _ rfl rfl (ad.add (i * 7)) rfl [Value.int .i64 (x : Int), .int .i64 (y : Int), .int .u64 (z0.toNat : Int), .int .u64 (z1.toNat : Int), .int .u64 (z2.toNat : Int), .int .u64 (z3.toNat : Int), .bool fr] (agg_edge _) (sz_edge _) rfl LX.out ?_)
      have kx := heap_alloc_new wr (.cells #[.int .i64 (x : Int), .int .i64 (y : Int), .int .u64 (z0.toNat : Int), .int .u64 (z1.toNat : Int), .int .u64 (z2.toNat : Int), .int .u64 (z3.toNat : Int), .bool fr] 39)
      have bx := bl_alloc (Below.refl wr.heap.size wr) (.cells #[.int .i64 (x : Int), .int .i64 (y : Int), .int .u64 (z0.toNat : Int), .int .u64 (z1.toNat : Int), .int .u64 (z2.toNat : Int), .int .u64 (z3.toNat : Int), .bool fr] 39)
      have B2 := Lib.hid (bl_trans BC.out bx)
      have O2 := Lib.hid (OC.out.alloc (.cells #[.int .i64 (x : Int), .int .i64 (y : Int), .int .u64 (z0.toNat : Int), .int .u64 (z1.toNat : Int), .int .u64 (z2.toNat : Int), .int .u64 (z3.toNat : Int), .bool fr] 39))
      clear KR bx q1 LX BC OC
      generalize wr.alloc (.cells #[.int .i64 (x : Int), .int .i64 (y : Int), .int .u64 (z0.toNat : Int), .int .u64 (z1.toNat : Int), .int .u64 (z2.toNat : Int), .int .u64 (z3.toNat : Int), .bool fr] 39) = w2 at *
      generalize wr.heap.size = ge at *
      have KX := Lib.hid kx
      obtain ⟨adb, hAb, hcb⟩ := (HB.out.below B2.out) x (by rw [HBS.out]; exact hx)
      subst hAb
      have e0 := cell_of_row w2 ge 0 _ _ _ kx
      have e2 := cell_of_row w2 ge 2 _ _ _ kx
      have e3 := cell_of_row w2 ge 3 _ _ _ kx
      have e4 := cell_of_row w2 ge 4 _ _ _ kx
      have e5 := cell_of_row w2 ge 5 _ _ _ kx
      have e6 := cell_of_row w2 ge 6 _ _ _ kx
      simp only [List.getElem?_toArray, List.getElem?_cons_succ, List.getElem?_cons_zero] at e0 e2 e3 e4 e5 e6
      have HTX := Lib.hid (show bs[x]'(by rw [HBS.out]; exact hx) = true ↔ x ∈ trues bs from ⟨fun h => mem_trues.2 ⟨_, h⟩, fun h => (mem_trues.1 h).2⟩)
      generalize bs[x]'(by rw [HBS.out]; exact hx) = tx at *
      have hxn : (x : Int) < (n : Int) := by omega
      have hyn : (y : Int) < (n : Int) := by omega
      clear kx
      cases fr with
      | true =>
        have HN2 := Lib.hid (HNX.out.1 (fun h => by cases h.1))
        clear HNX
        go_wp2_with fail
        exact ⟨⟨i + 1, cs, by go_num, by omega, HLC, HN2, O2, B2⟩, by simp [intOf]; omega⟩
      | false =>
      cases tx with
      | false =>
        have HN2 := Lib.hid (HNX.out.1 (fun h => by have := HTX.out.2 h.2.1; cases this))
        clear HNX
        go_wp2_with fail
        exact ⟨⟨i + 1, cs, by go_num, by omega, HLC, HN2, O2, B2⟩, by simp [intOf]; omega⟩
      | true =>
      have HC := Lib.hid (rhas_words z0 z1 z2 z3 ch hch w2)
      obtain ⟨t, ht⟩ : ∃ t, hasS ⟨z0, z1, z2, z3⟩ ch = t := ⟨_, rfl⟩
      rw [ht] at HC HNX
      clear ht
      go_wp2_with fail
      refine HC.out.mono ?_
      rintro er w3 ⟨rfl, hb3⟩
      have B3 := Lib.hid (bl_trans B2.out hb3)
      have O3 := Lib.hid (O2.out.below hb3)
      have k3 := (hb3.block ge (Array.getElem?_eq_some_iff.1 KX.out).1).trans KX.out
      have e1 := cell_of_row w3 ge 1 _ _ _ k3
      simp only [List.getElem?_toArray, List.getElem?_cons_succ, List.getElem?_cons_zero] at e1
      clear HC hb3 k3 B2 O2 e0 e2 e3 e4 e5 e6 hcb
      cases t with
      | false =>
        have HN2 := Lib.hid (HNX.out.1 (fun h => by cases h.2.2))
        clear HNX
        go_wp2_with fail
        exact ⟨⟨i + 1, cs, by go_num, by omega, HLC, HN2, O3, B3⟩, by simp [intOf]; omega⟩
      | true =>
        have HN2 := Lib.hid (HNX.out.2 ⟨by first | rfl | trivial, HTX.out.1 (by first | rfl | trivial), by first | rfl | trivial⟩)
        have cy := O3.out.cellAt HLC.out (k := y) (by rw [HLC.out]; exact hy)
        have hst := O3.out.stored HLC.out y
        have cz := O3.out.frozenAt HLC.out y
        have O4 := Lib.hid hst.1
        have B4 := Lib.hid (bl_grown B3.out hst.2 (fun i e => by cases e; exact HQ1.out))
        have HL4 := Lib.hid (show (cs.set y true).length = n from by rw [List.length_set]; exact HLC.out)
        clear hst HNX O3
        go_wp2_with fail
        exact ⟨⟨i + 1, cs.set y true, by go_num, by omega, HL4, HN2, O4, B4⟩, by simp [intOf]; omega⟩
    · obtain rfl : i = ne := by omega
      have HD := Lib.hid (show ∀ x, x ∈ trues cs ↔ x ∈ behE E ch (trues bs) from fun x => beh_done HED.out hch (by rw [HNE.out]; exact HBT.out) x)
      go_wp2_with fail
      refine post_is HQ ⟨_, cs, rfl, by rw [HG.out]; exact OC.out.more (by have := B0.out.size; have := HG.out; omega), HLC.out, HD.out, by rw [HG.out]; exact bl_trans' HG.out B0.out BC.out⟩

end Go.Proofs.YtjibfffefppniaaGreat
