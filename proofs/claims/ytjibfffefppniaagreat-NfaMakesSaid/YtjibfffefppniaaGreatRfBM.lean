/- Rows of marks: states as Bools. What is reached for nothing, told by marks. -/
import Derived.Test.YtjibfffefppniaaGreatRfCM
import Derived.Test.YtjibfffefppniaaGreatNfApM
set_option linter.unusedVariables false
set_option linter.unusedSimpArgs false
namespace Go.Proofs.YtjibfffefppniaaGreat
open Go.RowKit
attribute [local go_sem] Oper.semAt_some

/-! No program. -/
def trues (l : List Bool) : List Nat := (List.range l.length).filter fun i => l.getD i false
theorem mem_trues {l : List Bool} {x : Nat} : x ∈ trues l ↔ ∃ h : x < l.length, l[x] = true := by
  unfold trues
  rw [List.mem_filter, List.mem_range]
  constructor
  · rintro ⟨h1, h2⟩
    refine ⟨h1, ?_⟩
    simpa [List.getD, h1] using h2
  · rintro ⟨h1, h2⟩
    exact ⟨h1, by simp [List.getD, h1, h2]⟩
theorem trues_in (l : List Bool) : InN l.length (trues l) := fun x hx => (mem_trues.1 hx).1
theorem trues_set {l : List Bool} {y : Nat} (hy : y < l.length) {x : Nat} : x ∈ trues (l.set y true) ↔ x ∈ trues l ∨ x = y := by
  rw [mem_trues, mem_trues]
  constructor
  · rintro ⟨h1, h2⟩
    by_cases e : y = x
    · exact Or.inr e.symm
    · rw [List.getElem_set_ne e] at h2
      exact Or.inl ⟨by simpa using h1, h2⟩
  · rintro (⟨h1, h2⟩ | rfl)
    · refine ⟨by simpa using h1, ?_⟩
      by_cases e : y = x
      · subst e; simp
      · rw [List.getElem_set_ne e]; exact h2
    · exact ⟨by simpa using hy, by simp⟩
def fls (l : List Bool) : Nat := (l.filter fun b => !b).length
theorem fls_set : ∀ (l : List Bool) (y : Nat) (hy : y < l.length), l[y] = false → fls (l.set y true) + 1 = fls l
  | b :: l, 0, _, h => by
    have h : b = false := h
    subst h
    simp [fls]
  | b :: l, y + 1, hy, h => by
    have := fls_set l y (by simpa using hy) (by simpa using h)
    cases b <;> simp [fls] at * <;> omega
theorem fls_le (l : List Bool) : fls l ≤ l.length := List.length_filter_le _ _
/-- While the closure grows. -/
structure Gr (E : List Ed) (bs cs : List Bool) : Prop where
  len : cs.length = bs.length
  up : ∀ x ∈ trues bs, x ∈ trues cs
  snd : ∀ x ∈ trues cs, Rch E (trues bs) x
theorem Gr.refl (E : List Ed) (bs : List Bool) : Gr E bs bs := ⟨rfl, fun x h => h, fun x h => .base h⟩
theorem Gr.set {E : List Ed} {bs cs : List Bool} (h : Gr E bs cs) {e : Ed} (he : e ∈ E) (hf : e.free = true) {x y : Nat} (hx : e.fr = (x : Int)) (hy : e.to = (y : Int)) (hxc : x ∈ trues cs) (hyl : y < cs.length) : Gr E bs (cs.set y true) := by
  refine ⟨by rw [List.length_set]; exact h.len, fun z hz => (trues_set hyl).2 (Or.inl (h.up z hz)), fun z hz => ?_⟩
  rcases (trues_set hyl).1 hz with hz | rfl
  · exact h.snd z hz
  · have := Rch.step (h.snd x hxc) he hx hf
    rwa [show e.tn = z from by unfold Ed.tn; omega] at this
def OkTo (E : List Ed) (k : Nat) (cs : List Bool) : Prop := ∀ e ∈ E.take k, e.free = true → ∀ x y : Nat, e.fr = (x : Int) → e.to = (y : Int) → x ∈ trues cs → y ∈ trues cs
theorem okto_next {E : List Ed} {k : Nat} {cs : List Bool} (hk : k < E.length) (h : OkTo E k cs) (h2 : E[k].free = true → ∀ x y : Nat, E[k].fr = (x : Int) → E[k].to = (y : Int) → x ∈ trues cs → y ∈ trues cs) : OkTo E (k + 1) cs := fun e he => by
  rw [List.take_succ_eq_append_getElem hk, List.mem_append, List.mem_singleton] at he
  rcases he with he | rfl
  · exact h e he
  · exact h2
theorem gr_done {E : List Ed} {bs cs : List Bool} {S : Nat} (hE : EdN S E) (h : Gr E bs cs) (hc : OkTo E E.length cs) (x : Nat) : x ∈ trues cs ↔ Rch E (trues bs) x := by
  refine ⟨h.snd x, fun hr => ?_⟩
  induction hr with
  | base hx => exact h.up _ hx
  | @step y e _ he hf hr ih =>
    obtain ⟨a, b, c, d, _⟩ := hE e he
    exact hc e (by rw [List.take_length]; exact he) hr y e.tn hf (by unfold Ed.tn; omega) ih

/-! A row of marks that a call made. -/
def RdQ (w : World) (A : Option Addr) (l : List Bool) : Prop := ∀ k (h : k < l.length), ∃ ad, A = some ad ∧ w.cell? (ad.add k) = some (.bool l[k])
theorem RdQ.below {w w' : World} {A : Option Addr} {l : List Bool} (h : RdQ w A l) (hb : Below w.heap.size w w') : RdQ w' A l := fun k hk => by
  obtain ⟨ad, e, hc⟩ := h k hk
  exact ⟨ad, e, (hb.cell (World.block_lt_of_cell? w _ hc)).trans hc⟩
def OwnQ (w : World) (base : Nat) (v : Value) (l : List Bool) : Prop := w.ownsRow base 4 1 v l.length (l.map Value.bool)
theorem OwnQ.nil (w : World) (base : Nat) : OwnQ w base (.slice none 0 0) [] := World.ownsRow_nil _ _ _ _
theorem info_bool : (Tryz.prog.info? 4).map (fun i => (i.zero, i.size, i.bytes)) = some (some (.bool false), 1, 1) := by kernel_rfl
theorem OwnQ.form {w : World} {base : Nat} {v : Value} {l : List Bool} (h : OwnQ w base v l) (h0 : 0 < l.length) :
    ∃ b c, v = .slice (some ⟨b, 0, none⟩) l.length c ∧ base ≤ b ∧ b < w.heap.size ∧ l.length ≤ c := by
  rcases h.2 with ⟨rfl, hn⟩ | ⟨g, cap, cur, rfl, hb, hg, hnc, hcm, hcs, ht⟩
  · omega
  · exact ⟨g, cap, rfl, hb, (Array.getElem?_eq_some_iff.1 hg).1, hnc⟩
theorem OwnQ.cellAt {w : World} {base b c : Nat} {l : List Bool} {n : Nat} (h : OwnQ w base (.slice (some ⟨b, 0, none⟩) n c) l) (hn : l.length = n) {k : Nat} (hk : k < l.length) : w.cell? ⟨b, k, none⟩ = some (.bool l[k]) := by
  subst hn
  have h1 := World.ownsRow.cellAt h k (by omega)
  rw [h1]
  simp [hk]
theorem OwnQ.frozenAt {w : World} {base b c : Nat} {l : List Bool} {n : Nat} (h : OwnQ w base (.slice (some ⟨b, 0, none⟩) n c) l) (hn : l.length = n) (k : Nat) : w.frozen? ⟨b, k, none⟩ = false := by
  subst hn
  exact World.ownsRow.frozenAt h k
theorem OwnQ.stored {w : World} {base b c : Nat} {l : List Bool} {n : Nat} (h : OwnQ w base (.slice (some ⟨b, 0, none⟩) n c) l) (hn : l.length = n) (k : Nat) :
    OwnQ (w.setCell ⟨b, k, none⟩ (.bool true)) base (.slice (some ⟨b, 0, none⟩) n c) (l.set k true) ∧ w.grownBy (w.setCell ⟨b, k, none⟩ (.bool true)) (some b) := by
  subst hn
  have h1 := World.ownsRow.stored h k (.bool true)
  refine ⟨?_, h1.2⟩
  unfold OwnQ
  rw [List.length_set, List.map_set]
  exact h1.1
theorem OwnQ.alloc {w : World} {base : Nat} {v : Value} {l : List Bool} (h : OwnQ w base v l) (o : Obj) : OwnQ (w.alloc o) base v l := World.ownsRow.alloc h o
theorem OwnQ.below {w w' : World} {base : Nat} {v : Value} {l : List Bool} (h : OwnQ w base v l) (hb : Below w.heap.size w w') : OwnQ w' base v l :=
  World.ownsRow.kept h (grown_of_below hb none) (by cases v.ownBlock <;> simp)
theorem OwnQ.more {w : World} {base base' : Nat} {v : Value} {l : List Bool} (h : OwnQ w base v l) (hb : base' ≤ base) : OwnQ w base' v l := by
  refine ⟨h.1, ?_⟩
  rcases h.2 with h | ⟨g, cap, cur, e, hg, r⟩
  · exact Or.inl h
  · exact Or.inr ⟨g, cap, cur, e, Nat.le_trans hb hg, r⟩
theorem OwnQ.rd {w : World} {base : Nat} {v : Value} {l : List Bool} (h : OwnQ w base v l) (h0 : 0 < l.length) : ∃ A n c, v = .slice A n c ∧ Hid (l.length = n) ∧ n ≤ c ∧ RdQ w A l := by
  obtain ⟨b, c, rfl, _, _, hc⟩ := h.form h0
  refine ⟨_, _, _, rfl, rfl, hc, fun k hk => ⟨_, rfl, ?_⟩⟩
  rw [addr_mk, Nat.zero_add]
  exact h.cellAt rfl hk
theorem rdq_src {w : World} {A : Option Addr} {l : List Bool} (h : RdQ w A l) : (l.map Value.bool = [] ∧ A = none) ∨ ∃ ad, A = some ad ∧ ∀ j u, (l.map Value.bool)[j]? = some u → w.cell? (ad.add j) = some u := by
  cases A with
  | none =>
    left
    refine ⟨?_, rfl⟩
    cases l with
    | nil => rfl
    | cons x l => obtain ⟨ad, e, _⟩ := h 0 (by simp); cases e
  | some ad =>
    right
    refine ⟨ad, rfl, fun j u hu => ?_⟩
    rw [List.getElem?_map] at hu
    obtain ⟨x, hx, rfl⟩ := Option.map_eq_some_iff.1 hu
    obtain ⟨hj, rfl⟩ := List.getElem?_eq_some_iff.1 hx
    obtain ⟨ad', e, hc⟩ := h j hj
    obtain rfl := Option.some.inj e
    exact hc
theorem bool_one (l : List Bool) : ∀ u ∈ l.map Value.bool, u.oneCell' = true := fun u hu => by
  obtain ⟨x, _, rfl⟩ := List.mem_map.1 hu
  rfl
/-- Marks of as many states, of those of which it is said. -/
def GotQ (W : World) (S : Nat) (P : Nat → Prop) (e : Ending) (W' : World) : Prop := ∃ v cs, e = .returned v ∧ OwnQ W' W.heap.size v cs ∧ cs.length = S ∧ (∀ x, x ∈ trues cs ↔ P x) ∧ Below W.heap.size W W'

set_option maxRecDepth 100000 in
set_option maxHeartbeats 16000000 in
theorem rfree_any (s : Nat) (E : List Ed) (bs : List Bool) (X : Value) (Ae A : Option Addr) (ne ce n c : Nat) (hne : E.length = ne) (hm1 : ne ≤ 140737488355328) (hE : EdN s E) (s1 : 1 ≤ s) (s2 : s ≤ 2048) (hbs : bs.length = s) (hn : bs.length = n) (W : World) (hr : RdE W Ae E) (hb : RdQ W A bs) (Ax : Option Addr) (nx cx : Nat) :
    Calls Tryz.prog 33 #[.agg #[.int .i64 (s : Int), .slice Ae ne ce, .slice Ax nx cx], .slice A n c] W (GotQ W s (fun x => x ∈ forE E (trues bs))) := by
  generalize hQ : GotQ W s (fun x => x ∈ forE E (trues bs)) = Q
  have HQ := Lib.hid hQ
  have b0 := bl_alloc (Below.refl W.heap.size W) (.cells #[.int .i64 (s : Int), .slice Ae ne ce, .slice Ax nx cx] 29)
  have k0 := heap_alloc_new W (.cells #[.int .i64 (s : Int), .slice Ae ne ce, .slice Ax nx cx] 29)
  have HE := Lib.hid (hr.below b0)
  have HB := Lib.hid (hb.below b0)
  have HNE := Lib.hid hne
  have HBS := Lib.hid hbs
  have HN := Lib.hid hn
  have HED := Lib.hid hE
  have B0 := Lib.hid b0
  have K0 := Lib.hid k0
  have hns : n = s := by omega
  have HIN := Lib.hid (show InN s (trues bs) from by rw [← hbs]; exact trues_in bs)
  clear hQ hr hb hne hbs hn hE b0 k0
  subst hns
  obtain ⟨i0, hi0, hz0, hz1, hz2⟩ := info_parts info_bool
  go_enter Tryz.func33, Tryz.ntmps33
  go_upto_region 1 with fail
  generalize W.alloc (.cells #[.int .i64 (n : Int), .slice Ae ne ce, .slice Ax nx cx] 29) = w0 at *
  generalize hg : W.heap.size = g at *
  have HG := Lib.hid hg
  have hgl := (Array.getElem?_eq_some_iff.1 K0.out).1
  have hb0 := HBS.out
  go_upto_region 2 with (at_builtin; refine wpList_append_rowsN _ rfl _ _ 64 rfl w0.heap.size 4 i0 (.bool false) 1 1 Tryz.underlying64 hi0 hz0 hz1 hz2 rfl (by decide) (.slice none 0 0) 0 [] rfl (World.ownsRow_nil _ _ _ _) A n c (bs.map Value.bool) rfl (by rw [List.length_map, HBS.out, Nat.mul_one]) (rdq_src HB.out) (bool_one bs) (by simp only [maxLen]; omega) (by omega) (Nat.le_refl _) ?_; intro v1 w1 ho1 hg1 hat1)
  have ho2 : OwnQ w1 w0.heap.size v1 bs := by
    unfold OwnQ
    rw [HBS.out]
    rw [Nat.zero_add, List.nil_append] at ho1
    exact ho1
  obtain ⟨q, cq, rfl, hq1, hq2, hq3⟩ := ho2.form (by omega)
  rw [hb0] at ho2 ⊢
  have O1 := Lib.hid ho2
  have B1 := Lib.hid (bl_grown (Below.refl w0.heap.size w0) hg1 (fun i e => by cases e))
  have HGL := Lib.hid hgl
  clear ho1 ho2 hg1 hat1 hi0 hz0 hz1 hz2 hg hgl hb0 hq2 hq3
  go_wp2_with fail
  go_loopg [6] 2050 (fun k mv wr => ∃ (m : Bool) (cs : List Bool), mv = .bool m ∧ Hid (k ≤ 2050) ∧ Hid (m = true → fls cs + 1 < k) ∧ Hid (0 < k) ∧ Hid (m = false → OkTo E E.length cs) ∧ Hid (Gr E bs cs) ∧ Hid (OwnQ wr w0.heap.size (.slice (some ⟨q, 0, none⟩) n cq) cs) ∧ Hid (Below w0.heap.size w0 wr))
  case atStart => exact ⟨true, bs, rfl, Nat.le_refl _, (fun _ => by have h1 := fls_le bs; have h2 := HBS.out; omega), (show 0 < 2050 by omega), (fun h => by cases h), Gr.refl E bs, O1, B1⟩
  case round =>
    obtain ⟨m, cs0, rfl, HK, HF, HK0, HOK, HGR, OC, BC⟩ := hrel
    clear O1 B1
    cases m with
    | false =>
      have HD := Lib.hid (show ∀ x, x ∈ trues cs0 ↔ x ∈ forE E (trues bs) from fun x => by
        rw [gr_done HED.out HGR.out (HOK.out rfl) x, (for_spec HED.out s2 HIN.out).2.2])
      go_wp2_with fail
      refine post_is HQ ⟨_, cs0, rfl, by rw [HG.out]; exact OC.out.more (by have := B0.out.size; have := HG.out; omega), by rw [HGR.out.len]; exact HBS.out, HD.out, by rw [HG.out]; exact bl_trans' HG.out B0.out BC.out⟩
    | true =>
      obtain ⟨f, rfl⟩ : ∃ f, gk = f + 1 := ⟨gk - 1, by have := HK0.out; omega⟩
      have HF0 := Lib.hid (HF.out rfl)
      clear HF HK0 HOK
      have KR := Lib.hid ((BC.out.block g HGL.out).trans K0.out)
      have q1 := cell_of_row wr g 1 _ _ _ KR.out
      go_wp2_with fail
      clear q1 KR
      go_loopw [6, 7] (fun mv iv wr => ∃ (m : Bool) (i : Nat) (cs : List Bool), mv = .bool m ∧ iv = .int .i64 (i : Int) ∧ i ≤ ne ∧ Hid (m = true → fls cs < fls cs0) ∧ Hid (m = false → fls cs = fls cs0 ∧ OkTo E i cs) ∧ Hid (Gr E bs cs) ∧ Hid (OwnQ wr w0.heap.size (.slice (some ⟨q, 0, none⟩) n cq) cs) ∧ Hid (Below w0.heap.size w0 wr)) (fun _ iv _ => ne - (intOf iv).toNat)
      case atStart => exact ⟨false, 0, cs0, rfl, rfl, Nat.zero_le _, (fun h => by cases h), (fun _ => ⟨rfl, fun e he => by simp at he⟩), HGR, OC, BC⟩
      case round =>
        obtain ⟨m, i, cs, rfl, rfl, hi, HM1, HM2, HGC, OC2, BC2⟩ := hrel
        clear HGR OC BC
        have KR := Lib.hid ((BC2.out.block g HGL.out).trans K0.out)
        have q1 := cell_of_row wr g 1 _ _ _ KR.out
        by_cases hlt : i < ne
        · have hil : i < E.length := by rw [HNE.out]; exact hlt
          obtain ⟨ad, hA, hcs⟩ := (HE.out.below BC2.out) i hil
          subst hA
          obtain ⟨f1, f2, f3, f4, _⟩ := HED.out E[i] (List.getElem_mem hil)
          have HMEM := Lib.hid (List.getElem_mem hil)
          have HNX := Lib.hid (fun (cs : List Bool) (h : OkTo E i cs) h2 => okto_next hil h h2)
          generalize E[i] = e at *
          obtain ⟨efr, eto, ⟨z0, z1, z2, z3⟩, fr⟩ := e
          dsimp only at f1 f2 f3 f4 HNX
          obtain ⟨x, rfl⟩ : ∃ x : Nat, efr = (x : Int) := ⟨efr.toNat, by omega⟩
          obtain ⟨y, rfl⟩ : ∃ y : Nat, eto = (y : Int) := ⟨eto.toNat, by omega⟩
          have hx : x < n := by omega
          have hy : y < n := by omega
          have hlc : cs.length = n := by rw [HGC.out.len]; exact HBS.out
          have HLC := Lib.hid hlc
          have LX := Lib.hid (show ∀ j u, [Value.int .i64 (x : Int), .int .i64 (y : Int), .int .u64 (z0.toNat : Int), .int .u64 (z1.toNat : Int), .int .u64 (z2.toNat : Int), .int .u64 (z3.toNat : Int), .bool fr][j]? = some u → wr.cell? ((ad.add (i * 7)).add j) = some u from hcs)
          clear hcs f1 f2 f3 f4 hil hlc
          go_upto_region 9 with (refine wpList_load_part 39 7 _ rfl rfl (ad.add (i * 7)) rfl [Value.int .i64 (x : Int), .int .i64 (y : Int), .int .u64 (z0.toNat : Int), .int .u64 (z1.toNat : Int), .int .u64 (z2.toNat : Int), .int .u64 (z3.toNat : Int), .bool fr] (agg_edge _) (sz_edge _) rfl LX.out ?_)
          have kx := heap_alloc_new wr (.cells #[.int .i64 (x : Int), .int .i64 (y : Int), .int .u64 (z0.toNat : Int), .int .u64 (z1.toNat : Int), .int .u64 (z2.toNat : Int), .int .u64 (z3.toNat : Int), .bool fr] 39)
          have bx := bl_alloc (Below.refl wr.heap.size wr) (.cells #[.int .i64 (x : Int), .int .i64 (y : Int), .int .u64 (z0.toNat : Int), .int .u64 (z1.toNat : Int), .int .u64 (z2.toNat : Int), .int .u64 (z3.toNat : Int), .bool fr] 39)
          have B1 := Lib.hid (bl_trans BC2.out bx)
          have O1 := Lib.hid (OC2.out.alloc (.cells #[.int .i64 (x : Int), .int .i64 (y : Int), .int .u64 (z0.toNat : Int), .int .u64 (z1.toNat : Int), .int .u64 (z2.toNat : Int), .int .u64 (z3.toNat : Int), .bool fr] 39))
          clear KR bx q1 LX BC2 OC2
          generalize wr.alloc (.cells #[.int .i64 (x : Int), .int .i64 (y : Int), .int .u64 (z0.toNat : Int), .int .u64 (z1.toNat : Int), .int .u64 (z2.toNat : Int), .int .u64 (z3.toNat : Int), .bool fr] 39) = w1 at *
          generalize wr.heap.size = ge at *
          have e0 := cell_of_row w1 ge 0 _ _ _ kx
          have e1 := cell_of_row w1 ge 1 _ _ _ kx
          have e6 := cell_of_row w1 ge 6 _ _ _ kx
          simp only [List.getElem?_toArray, List.getElem?_cons_succ, List.getElem?_cons_zero] at e0 e1 e6
          have cx := O1.out.cellAt HLC.out (k := x) (by rw [HLC.out]; exact hx)
          have cy := O1.out.cellAt HLC.out (k := y) (by rw [HLC.out]; exact hy)
          have HTX := Lib.hid (show cs[x]'(by rw [HLC.out]; exact hx) = true ↔ x ∈ trues cs from ⟨fun h => mem_trues.2 ⟨_, h⟩, fun h => (mem_trues.1 h).2⟩)
          have HTY := Lib.hid (show cs[y]'(by rw [HLC.out]; exact hy) = true ↔ y ∈ trues cs from ⟨fun h => mem_trues.2 ⟨_, h⟩, fun h => (mem_trues.1 h).2⟩)
          have HFS := Lib.hid (show cs[y]'(by rw [HLC.out]; exact hy) = false → fls (cs.set y true) + 1 = fls cs from fls_set cs y (by rw [HLC.out]; exact hy))
          generalize cs[x]'(by rw [HLC.out]; exact hx) = tx at *
          generalize cs[y]'(by rw [HLC.out]; exact hy) = ty at *
          have hxn : (x : Int) < (n : Int) := by omega
          have hyn : (y : Int) < (n : Int) := by omega
          cases fr with
          | false =>
            have HM2' := Lib.hid (show m = false → fls cs = fls cs0 ∧ OkTo E (i + 1) cs from fun h => ⟨(HM2.out h).1, HNX.out cs (HM2.out h).2 (fun h => by cases h)⟩)
            clear HMEM HNX kx
            go_wp2_with fail
            exact ⟨⟨m, i + 1, cs, rfl, by go_num, by omega, HM1, HM2', HGC, O1, B1⟩, by simp [intOf]; omega⟩
          | true =>
          cases tx with
          | false =>
            have HM2' := Lib.hid (show m = false → fls cs = fls cs0 ∧ OkTo E (i + 1) cs from fun h => ⟨(HM2.out h).1, HNX.out cs (HM2.out h).2 (fun _ x' y' h1 h2 h3 => by
              obtain rfl : x' = x := (Int.ofNat.inj h1).symm
              have := HTX.out.2 h3
              cases this)⟩)
            clear HMEM HNX kx
            go_wp2_with fail
            exact ⟨⟨m, i + 1, cs, rfl, by go_num, by omega, HM1, HM2', HGC, O1, B1⟩, by simp [intOf]; omega⟩
          | true =>
          cases ty with
          | true =>
            have HM2' := Lib.hid (show m = false → fls cs = fls cs0 ∧ OkTo E (i + 1) cs from fun h => ⟨(HM2.out h).1, HNX.out cs (HM2.out h).2 (fun _ x' y' h1 h2 h3 => by
              obtain rfl : y' = y := (Int.ofNat.inj h2).symm
              exact HTY.out.1 rfl)⟩)
            clear HMEM HNX kx
            go_wp2_with fail
            exact ⟨⟨m, i + 1, cs, rfl, by go_num, by omega, HM1, HM2', HGC, O1, B1⟩, by simp [intOf]; omega⟩
          | false =>
            have HG2 := Lib.hid (HGC.out.set HMEM.out rfl rfl rfl (HTX.out.1 rfl) (y := y) (by rw [HLC.out]; exact hy))
            have HF2 := Lib.hid (show fls (cs.set y true) < fls cs0 from by
              have h1 := HFS.out rfl
              cases m with
              | true => have h2 := HM1.out rfl; omega
              | false => have h2 := (HM2.out rfl).1; omega)
            have hst := O1.out.stored HLC.out y
            have cz := O1.out.frozenAt HLC.out y
            have O2 := Lib.hid hst.1
            have B2 := Lib.hid (bl_grown B1.out hst.2 (fun i e => by cases e; exact hq1))
            clear hst HMEM HNX kx HGC HM1 HM2 HTX HTY HFS O1
            go_wp2_with fail
            exact ⟨⟨true, i + 1, cs.set y true, rfl, by go_num, by omega, (fun _ => HF2.out), (fun h => by cases h), HG2, O2, B2⟩, by simp [intOf]; omega⟩
        · obtain rfl : i = ne := by omega
          have HOE := Lib.hid (show m = false → OkTo E E.length cs from fun h => by rw [HNE.out]; exact (HM2.out h).2)
          go_wp2_with fail
          go_roundg f
          case measure => omega
          case rel =>
            have h1 := HK.out
            have h2 := HF0.out
            cases m with
            | true => exact ⟨true, cs, rfl, Lib.hid (by omega), (fun _ => by have := HM1.out rfl; omega), Lib.hid (by omega), (fun h => by cases h), HGC, OC2, BC2⟩
            | false => exact ⟨false, cs, rfl, Lib.hid (by omega), (fun h => by cases h), Lib.hid (by omega), (fun _ => HOE.out rfl), HGC, OC2, BC2⟩

end Go.Proofs.YtjibfffefppniaaGreat
