/- The maker of machines: how it lies; reach puts behind some states those that this round has not reached yet. -/
import Derived.Test.YtcgfogdfcdndgaaGreatDoorDfMQ
import Derived.Test.YtcgfogdfcdndgaaGreatDoorNfXQ
import Derived.BigQuiet
set_option linter.unusedVariables false
set_option linter.unusedSimpArgs false
namespace Go.Proofs.YtcgfogdfcdndgaaGreatDoor
open Go.RowKit
attribute [local go_sem] Oper.semAt_some

/-- The maker's cells: 256 classes, then ten more. -/
def mkT (cl : Nat → Int) (t : List Value) : Array Value := ((List.range 256).map (fun c => Value.int .i64 (cl c)) ++ t).toArray
theorem mkT_at (cl : Nat → Int) (t : List Value) (j : Nat) : (mkT cl t)[256 + j]? = t[j]? := by
  unfold mkT
  rw [List.getElem?_toArray, List.getElem?_append_right (by simp)]
  simp
theorem mkT_cl (cl : Nat → Int) (t : List Value) {c : Nat} (hc : c < 256) : (mkT cl t)[c]? = some (.int .i64 (cl c)) := by
  unfold mkT
  rw [List.getElem?_toArray, List.getElem?_append_left (by simpa using hc)]
  simp [hc]
theorem mkT_set (cl : Nat → Int) (t : List Value) (j : Nat) (v : Value) : (mkT cl t).setIfInBounds (256 + j) v = mkT cl (t.set j v) := by
  unfold mkT
  rw [List.setIfInBounds_toArray, List.set_append_right _ _ (by simp)]
  simp
theorem mkT_put (cl : Nat → Int) (t : List Value) {c : Nat} (hc : c < 256) (x : Int) : (mkT cl t).setIfInBounds c (.int .i64 x) = mkT (fun d => if d = c then x else cl d) t := by
  unfold mkT
  rw [List.setIfInBounds_toArray, List.set_append_left _ _ (by simpa using hc)]
  congr 2
  apply List.ext_getElem?
  intro i
  rw [List.getElem?_set]
  by_cases hi : i < 256
  · by_cases e : c = i
    · subst e; simp [hc]
    · have e2 : i ≠ c := fun h => e h.symm
      simp [hi, e, e2]
  · have e : c ≠ i := by omega
    simp [hi, e]
theorem mkT_size (cl : Nat → Int) (t : List Value) : (mkT cl t).size = 256 + t.length := by simp [mkT]
/-- What the maker holds besides. -/
structure Mv where
  nx : Value
  ru : Value
  en : Value
  fr : Value
  ed : Value
  ls : Value
  fo : Value
def Mv.tl (m : Mv) (gm gr S rd : Nat) : List Value := [m.nx, m.ru, m.en, m.fr, m.ed, m.ls, m.fo, .map (some gm), .slice (some ⟨gr, 0, none⟩) S S, .int .i64 (rd : Int)]
/-- What was made ahead stays, but the maker, its map, and its marks. -/
structure Kp (n1 g gm gr : Nat) (W1 W : World) : Prop where
  size : n1 ≤ W.heap.size
  keep : ∀ i, i < n1 → i ≠ g → i ≠ gm → i ≠ gr → W.heap[i]? = W1.heap[i]?
/-- Where they lie. -/
structure Pl (W0 : World) (n1 g gm gr S : Nat) : Prop where
  s1 : 1 ≤ S
  s2 : S ≤ 2048
  lg : W0.heap.size ≤ g
  lm : W0.heap.size ≤ gm
  lr : W0.heap.size ≤ gr
  ug : g < n1
  um : gm < n1
  ur : gr < n1
  gm_ne : g ≠ gm
  gr_ne : g ≠ gr
  mr_ne : gm ≠ gr
structure MkR (W0 W1 : World) (n1 g gm gr S : Nat) (cl : Nat → Int) (m : Mv) (rd : Nat) (f : Nat → Nat) (W : World) : Prop where
  cells : W.heap[g]? = some (.cells (mkT cl (m.tl gm gr S rd)) 63 (0, 0))
  rea : Hn W gr S f
  kp : Kp n1 g gm gr W1 W
  low : Below W0.heap.size W0 W
section
variable {W0 W1 W W' : World} {n1 g gm gr S : Nat} {cl : Nat → Int} {m : Mv} {rd : Nat} {f : Nat → Nat}
theorem MkR.cell (h : MkR W0 W1 n1 g gm gr S cl m rd f W) (j : Nat) (v : Value) (hj : (m.tl gm gr S rd)[j]? = some v) : W.cell? ⟨g, 256 + j, none⟩ = some v := by
  rw [cell_of_row W g (256 + j) _ _ _ h.cells, mkT_at]
  exact hj
theorem MkR.c0 (h : MkR W0 W1 n1 g gm gr S cl m rd f W) : W.cell? ⟨g, 256, none⟩ = some m.nx := h.cell 0 _ rfl
theorem MkR.c1 (h : MkR W0 W1 n1 g gm gr S cl m rd f W) : W.cell? ⟨g, 257, none⟩ = some m.ru := h.cell 1 _ rfl
theorem MkR.c2 (h : MkR W0 W1 n1 g gm gr S cl m rd f W) : W.cell? ⟨g, 258, none⟩ = some m.en := h.cell 2 _ rfl
theorem MkR.c3 (h : MkR W0 W1 n1 g gm gr S cl m rd f W) : W.cell? ⟨g, 259, none⟩ = some m.fr := h.cell 3 _ rfl
theorem MkR.c4 (h : MkR W0 W1 n1 g gm gr S cl m rd f W) : W.cell? ⟨g, 260, none⟩ = some m.ed := h.cell 4 _ rfl
theorem MkR.c5 (h : MkR W0 W1 n1 g gm gr S cl m rd f W) : W.cell? ⟨g, 261, none⟩ = some m.ls := h.cell 5 _ rfl
theorem MkR.c6 (h : MkR W0 W1 n1 g gm gr S cl m rd f W) : W.cell? ⟨g, 262, none⟩ = some m.fo := h.cell 6 _ rfl
theorem MkR.c7 (h : MkR W0 W1 n1 g gm gr S cl m rd f W) : W.cell? ⟨g, 263, none⟩ = some (.map (some gm)) := h.cell 7 _ rfl
theorem MkR.c8 (h : MkR W0 W1 n1 g gm gr S cl m rd f W) : W.cell? ⟨g, 264, none⟩ = some (.slice (some ⟨gr, 0, none⟩) S S) := h.cell 8 _ rfl
theorem MkR.c9 (h : MkR W0 W1 n1 g gm gr S cl m rd f W) : W.cell? ⟨g, 265, none⟩ = some (.int .i64 (rd : Int)) := h.cell 9 _ rfl
theorem MkR.free (h : MkR W0 W1 n1 g gm gr S cl m rd f W) (j : Nat) : W.frozen? ⟨g, j, none⟩ = false := frozen_of_row W g j _ _ h.cells
theorem MkR.drewN (h : MkR W0 W1 n1 g gm gr S cl m rd f W) (k : Nat) : MkR W0 W1 n1 g gm gr S cl m rd f (W.drewN k) := ⟨h.cells, h.rea, ⟨h.kp.size, h.kp.keep⟩, bl_drewN h.low k⟩
theorem MkR.drew (h : MkR W0 W1 n1 g gm gr S cl m rd f W) : MkR W0 W1 n1 g gm gr S cl m rd f W.drew := ⟨h.cells, h.rea, ⟨h.kp.size, h.kp.keep⟩, bl_drewN h.low 1⟩
/-- It stays where other memory is made, or another block turns. -/
theorem MkR.grown (h : MkR W0 W1 n1 g gm gr S cl m rd f W) (pl : Pl W0 n1 g gm gr S) {r : Option Nat} (hg : W.grownBy W' r) (hr : ∀ i, r = some i → n1 ≤ i) : MkR W0 W1 n1 g gm gr S cl m rd f W' := by
  have ne_of : ∀ b, b < n1 → some b ≠ r := fun b hb e => by have := hr b e.symm; omega
  have kp : ∀ b, b < n1 → W'.heap[b]? = W.heap[b]? := fun b hb => hg.block b (by have := h.kp.size; omega) (ne_of b hb)
  exact ⟨(kp g pl.ug).trans h.cells, (kp gr pl.ur).trans h.rea, ⟨Nat.le_trans h.kp.size hg.size, fun i hi h1 h2 h3 => (kp i hi).trans (h.kp.keep i hi h1 h2 h3)⟩, bl_grown h.low hg (fun i e => by have := hr i e; have := pl.lg; have := pl.ug; omega)⟩
/-- A mark is set. -/
theorem MkR.mark (h : MkR W0 W1 n1 g gm gr S cl m rd f W) (pl : Pl W0 n1 g gm gr S) (s x : Nat) : MkR W0 W1 n1 g gm gr S cl m rd (upd f s x) (W.setCell ⟨gr, s, none⟩ (.int .i64 (x : Int))) := by
  have hg := grown_set W gr s (.int .i64 (x : Int))
  have kp : ∀ b, b ≠ gr → (W.setCell ⟨gr, s, none⟩ (.int .i64 (x : Int))).heap[b]? = W.heap[b]? := fun b hb => Below.heap_setCell _ _ _ _ (fun e => hb e)
  exact ⟨(kp g pl.gr_ne).trans h.cells, h.rea.set s x, ⟨Nat.le_trans h.kp.size hg.size, fun i hi h1 h2 h3 => (kp i h3).trans (h.kp.keep i hi h1 h2 h3)⟩, bl_grown h.low hg (fun i e => by cases e; exact pl.lr)⟩
/-- One of its cells is written. -/
theorem MkR.put (h : MkR W0 W1 n1 g gm gr S cl m rd f W) (pl : Pl W0 n1 g gm gr S) (j : Nat) (v : Value) (m' : Mv) (rd' : Nat) (hm : (m.tl gm gr S rd).set j v = m'.tl gm gr S rd') : MkR W0 W1 n1 g gm gr S cl m' rd' f (W.setCell ⟨g, 256 + j, none⟩ v) := by
  have hg := grown_set W g (256 + j) v
  have kp : ∀ b, b ≠ g → (W.setCell ⟨g, 256 + j, none⟩ v).heap[b]? = W.heap[b]? := fun b hb => Below.heap_setCell _ _ _ _ (fun e => hb e)
  refine ⟨?_, (kp gr (fun e => pl.gr_ne e.symm)).trans h.rea, ⟨Nat.le_trans h.kp.size hg.size, fun i hi h1 h2 h3 => (kp i h1).trans (h.kp.keep i hi h1 h2 h3)⟩, bl_grown h.low hg (fun i e => by cases e; exact pl.lg)⟩
  rw [← hm, ← mkT_set]
  exact heap_setCell_same W g (256 + j) _ _ _ h.cells
end
/-- The round has reached just these. -/
def Rnd (W0 W1 : World) (n1 g gm gr S : Nat) (cl : Nat → Int) (m : Mv) (rd : Nat) (l : List Nat) (W : World) : Prop :=
  ∃ f, MkR W0 W1 n1 g gm gr S cl m rd f W ∧ (∀ s, s < S → f s ≤ rd ∧ (f s = rd ↔ s ∈ l)) ∧ l.Nodup ∧ InN S l
theorem Fr.alloc (g gm : Nat) (v : Value) (W : World) (o : Obj) : Fr g gm v W (W.alloc o) := Fr.of_grown (World.grownBy_alloc W o none) (fun i e => by cases e)

set_option maxRecDepth 100000 in
set_option maxHeartbeats 4000000 in
theorem dreach_any {W0 W1 : World} {n1 g gm gr S : Nat} {cl : Nat → Int} {m : Mv} (pl : Pl W0 n1 g gm gr S) (rd : Nat) (hrd : rd < 10000000) (b : Nat) (hb1 : n1 ≤ b)
    (v : Value) (l : List Nat) (A : Option Addr) (n c : Nat) (xs : List Nat) (hn : xs.length = n) (hn2 : n ≤ 140737488355328) (hxs : InN S xs) (W : World) (hbw : b ≤ W.heap.size)
    (h : Rnd W0 W1 n1 g gm gr S cl m rd l W) (ho : OwnI W b v l) (hst : ∀ W', Fr g gr v W W' → RdZ W' A xs) :
    Calls Tryz.prog 88 #[.pointer (some ⟨g, 0, none⟩), v, .slice A n c] W
      (GotLs (fun v' l' W' => OwnI W' b v' l' ∧ Rnd W0 W1 n1 g gm gr S cl m rd l' W') g gr v W (xs.foldl reachE l)) := by
  generalize hQ : GotLs (fun v' l' W' => OwnI W' b v' l' ∧ Rnd W0 W1 n1 g gm gr S cl m rd l' W') g gr v W (xs.foldl reachE l) = Q
  have HQ := Lib.hid hQ
  have H0 := Lib.hid h
  have HO := Lib.hid ho
  have HST := Lib.hid hst
  have HX := Lib.hid hxs
  have HN := Lib.hid hn
  have HV := Lib.hid (fun i (e : v.ownBlock = some i) => (World.ownsRow.lt ho i e).1)
  clear hQ h ho hst hxs hn
  go_enter Tryz.func88, Tryz.ntmps88
  go_wp2_with fail
  go_loopw [1, 11] (fun vl vi wr => ∃ k : Nat, k ≤ n ∧ vi = .int .i64 (k : Int) ∧ Hid (OwnI wr b vl ((xs.take k).foldl reachE l)) ∧ Hid (Rnd W0 W1 n1 g gm gr S cl m rd ((xs.take k).foldl reachE l) wr) ∧ Hid (Fr g gr v W wr) ∧ Hid (∀ i, vl.ownBlock = some i → v.ownBlock = some i ∨ W.heap.size ≤ i)) (fun _ vi _ => n - (intOf vi).toNat)
  case atStart => exact ⟨0, Nat.zero_le _, rfl, HO.out, H0.out, Fr.refl _ _ _ _, fun i e => Or.inl e⟩
  case round =>
    obtain ⟨k, hk, rfl, OW, RN, FRk, NEW⟩ := hrel
    clear H0 HO
    by_cases hlt : k < n
    · have hkl : k < xs.length := by rw [HN.out]; exact hlt
      obtain ⟨ad, hA, hc1⟩ := HST.out wr FRk.out k hkl
      subst hA
      have hsx : xs[k] < S := HX.out _ (List.getElem_mem hkl)
      have TK := Lib.hid (show (xs.take (k + 1)).foldl reachE l = reachE ((xs.take k).foldl reachE l) xs[k] by rw [List.take_succ_eq_append_getElem hkl, List.foldl_append]; rfl)
      generalize xs[k] = s at *
      generalize (xs.take k).foldl reachE l = lk at *
      obtain ⟨f, hm, hnow, hnd, hin⟩ := RN.out
      obtain ⟨A1, n1', c1', rfl, HLk, hnc, hcm, _⟩ := OW.out.form
      have c8 := hm.c8
      have c9 := hm.c9
      have cr := hm.rea.cell hsx
      have HNOW := Lib.hid hnow
      have HND := Lib.hid hnd
      have HIN := Lib.hid hin
      have HM := Lib.hid hm
      have hl1 : lk.length ≤ 2048 := Nat.le_trans (len_le hnd hin) pl.s2
      have HL1 := Lib.hid hl1
      obtain ⟨hfle, hfi⟩ := hnow s hsx
      clear hkl hnow hnd hin hm RN hl1
      by_cases hfs : f s = rd
      · have e1 : (((f s : Nat) : Int) != (rd : Int)) = false := by simp [hfs]
        have RE := Lib.hid (show reachE lk s = lk from by rw [reachE, if_pos (hfi.1 hfs)])
        clear hfs hfle hfi
        go_wp2_with fail
        go_quiet (fail)
        go_wp2_with fail
        refine ⟨⟨k + 1, by omega, by go_num, ?_, ?_, ⟨FRk.out.size, FRk.out.keep⟩, NEW.out⟩, by simp [intOf]; omega⟩
        · unfold Hid
          rw [TK.out, RE.out]
          exact OW.out
        · unfold Hid
          rw [TK.out, RE.out]
          exact ⟨f, HM.out.drewN _, HNOW.out, HND.out, HIN.out⟩
      · have e1 : (((f s : Nat) : Int) != (rd : Int)) = true := by simp; omega
        have RE := Lib.hid (show reachE lk s = lk ++ [s] from by rw [reachE, if_neg (fun e => hfs (hfi.2 e))])
        clear hfs hfle hfi
        go_wp2_with fail
        go_quiet (fail)
        go_wp2_with fail
        have HMd := Lib.hid (HM.out.drewN nq)
        have OWd := Lib.hid (show OwnI (wr.drewN nq) b (.slice A1 n1' c1') lk from OW.out)
        have FRd := Lib.hid (show Fr g gr v W (wr.drewN nq) from ⟨FRk.out.size, FRk.out.keep⟩)
        have c8d := HMd.out.c8
        have c9d := HMd.out.c9
        have crd := HMd.out.rea.cell hsx
        have zrd := HMd.out.rea.free s
        clear c8 c9 cr HM OW FRk
        generalize wr.drewN nq = wd at *
        go_region
        clear c8d c9d crd zrd
        have hgm := grown_set wd gr s (.int .i64 (rd : Int))
        have HM2 := Lib.hid (show MkR W0 W1 n1 g gm gr S cl m rd (upd f s rd) (wd.setCell ⟨gr, s, none⟩ (.int .i64 (rd : Int))).drew from (HMd.out.mark pl s rd).drew)
        have how : OwnI (wd.setCell ⟨gr, s, none⟩ (.int .i64 (rd : Int))) b (.slice A1 n1' c1') lk := World.ownsRow.kept OWd.out hgm (Or.inr (fun e => by have := (World.ownsRow.lt OWd.out _ e).1; have := pl.ur; omega))
        have OW2 := Lib.hid (show OwnI (wd.setCell ⟨gr, s, none⟩ (.int .i64 (rd : Int))).drew b (.slice A1 n1' c1') lk from how)
        clear how
        have FR2 := Lib.hid (show Fr g gr v W (wd.setCell ⟨gr, s, none⟩ (.int .i64 (rd : Int))).drew from by
          have h := FRd.out.trans (Fr.of_grown (g := g) (gm := gr) (v := v) hgm (fun i e => Or.inr (Or.inl (Option.some.inj e).symm))) (fun i e => Or.inl e)
          exact ⟨h.size, h.keep⟩)
        have SZ2 := Lib.hid (show b ≤ (wd.setCell ⟨gr, s, none⟩ (.int .i64 (rd : Int))).drew.heap.size from Nat.le_trans hbw FR2.out.size)
        clear hgm HMd OWd FRd
        generalize (wd.setCell ⟨gr, s, none⟩ (.int .i64 (rd : Int))).drew = W2 at *
        obtain ⟨i0, hi, hz0, hz1, hz2⟩ := info_parts info_int
        go_wp2_with (at_builtin; refine wpList_append_lies _ rfl _ _ 23 rfl b 3 i0 (.int .i64 0) 1 8 Tryz.underlying23 hi hz0 hz1 hz2 rfl (by decide) (.slice A1 n1' c1') lk.length (lk.map nv) rfl (World.ownsRow.alloc OW2.out (.cells #[.int .i64 (s : Int)] 3)) ⟨W2.heap.size, 0, none⟩ 1 1 [.int .i64 (s : Int)] rfl rfl (one_row _ _ _) (by simp [Value.oneCell']) (by omega) (by have := HL1.out; simp only [maxLen]; omega) (by have := HL1.out; omega) (by have := SZ2.out; simp; omega) _ rfl ?_; intro g3 c3 W3 ho3 hg3 hat3 hlt3)
        have hgA := World.grownBy_alloc W2 (.cells #[.int .i64 (s : Int)] 3) none
        have hvb : ∀ i, (Value.slice A1 n1' c1').ownBlock = some i → n1 ≤ i := fun i e => Nat.le_trans hb1 (World.ownsRow.lt OW2.out i e).1
        have hm3 := (HM2.out.grown pl hgA (fun i e => by cases e)).grown pl hg3 hvb
        have hvn : ∀ i, (Value.slice A1 n1' c1').ownBlock = some i → v.ownBlock = some i ∨ W.heap.size ≤ i := NEW.out
        have fr3 := (FR2.out.trans (Fr.alloc g gr v W2 (.cells #[.int .i64 (s : Int)] 3)) (fun i e => Or.inl e)).trans (Fr.of_grown (g := g) (gm := gr) (v := .slice A1 n1' c1') hg3 (fun i e => Or.inr (Or.inr e))) hvn
        have ho4 : OwnI W3 b (.slice (some ⟨g3, 0, none⟩) (lk.length + 1) c3) (lk ++ [s]) := by
          unfold OwnI
          rw [List.length_append, List.length_singleton, List.map_append]
          exact ho3
        have hnew : ∀ i, (Value.slice (some ⟨g3, 0, none⟩) (lk.length + 1) c3).ownBlock = some i → v.ownBlock = some i ∨ W.heap.size ≤ i := fun i e => by
          obtain rfl : g3 = i := Option.some.inj e
          rcases hat3 with h | h
          · exact hvn _ h
          · right
            have := FR2.out.size
            rw [h]
            simp
            omega
        have hnow2 : ∀ t, t < S → upd f s rd t ≤ rd ∧ (upd f s rd t = rd ↔ t ∈ lk ++ [s]) := fun t ht => by
          unfold upd
          by_cases hts : t = s
          · rw [if_pos hts]
            exact ⟨Nat.le_refl _, fun _ => by rw [hts]; simp, fun _ => rfl⟩
          · rw [if_neg hts]
            have := HNOW.out t ht
            exact ⟨this.1, fun e => List.mem_append.2 (Or.inl (this.2.1 e)), fun e => by
              rcases List.mem_append.1 e with e | e
              · exact this.2.2 e
              · exact absurd (List.mem_singleton.1 e) hts⟩
        have hnd2 : (lk ++ [s]).Nodup := by
          have := nodup_reach (s := s) HND.out
          rwa [RE.out] at this
        have hin2 : InN S (lk ++ [s]) := by
          have := in_reach HIN.out hsx
          rwa [RE.out] at this
        refine ⟨⟨k + 1, by omega, by go_num, ?_, ?_, fr3, hnew⟩, by simp [intOf]; omega⟩
        · unfold Hid
          rw [TK.out, RE.out]
          exact ho4
        · unfold Hid
          rw [TK.out, RE.out]
          exact ⟨_, hm3, hnow2, hnd2, hin2⟩
    · obtain rfl : k = n := by omega
      have hall : (xs.take k).foldl reachE l = xs.foldl reachE l := by rw [List.take_of_length_le (by rw [HN.out]; exact Nat.le_refl _)]
      rw [hall] at OW RN
      go_wp2_with fail
      refine post_is HQ ?_
      exact ⟨_, rfl, ⟨OW.out, RN.out⟩, FRk.out, NEW.out⟩

end Go.Proofs.YtcgfogdfcdndgaaGreatDoor
