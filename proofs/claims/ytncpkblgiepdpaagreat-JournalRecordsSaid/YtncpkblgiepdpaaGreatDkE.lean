/- What the program's disk does when names change: contracts over the translated program. No condition but that the disk lies in memory as said, and what each statement names. -/
import Derived.Test.YtncpkblgiepdpaaGreatDkD
import Derived.Deep.RegionWith
import Derived.Deep.DeepCutAuto
import Derived.Deep.RegionLawGrows
import Derived.Test.YtncpkblgiepdpaaGreatShelf
set_option linter.unusedVariables false
namespace Go.Proofs.YtncpkblgiepdpaaGreat
open Go.RowKit Go.Maps

def GotB (w : World) (v : Value) (e : Ending) (w' : World) : Prop := e = .returned v ∧ Below w.heap.size w w'
theorem sclone_any (t : ByteArray) (w : World) (ht : t.size ≤ 281474976710656) : Calls Tryz.prog 141 #[.string t] w (GotB w (.string t)) := by
  have hc := Tryz.stringslite_Clone t w ht
  go_enter Tryz.func141, Tryz.ntmps141
  go_wp2_with ((with_reducible refine hc.mono ?_); rintro e w' ⟨rfl, hb⟩)
  go_ret
  exact ⟨rfl, hb⟩

/-- One block more has a role. -/
def setR (own : Nat → Option Role) (g : Nat) (r : Role) : Nat → Option Role := fun b => if b = g then some r else own b
theorem setR_same (own : Nat → Option Role) (g : Nat) (r : Role) : setR own g r g = some r := by simp [setR]
theorem setR_other (own : Nat → Option Role) {g : Nat} (r : Role) {b : Nat} (h : b ≠ g) : setR own g r b = own b := by simp [setR, h]
theorem setR_some {own : Nat → Option Role} {g : Nat} {r : Role} {b : Nat} {r' : Role} (h : setR own g r b = some r') : b = g ∨ own b = some r' := by
  by_cases e : b = g
  · exact .inl e
  · rw [setR_other _ _ e] at h; exact .inr h
theorem setR_more {own : Nat → Option Role} {g : Nat} {r : Role} (hg : own g = none ∨ own g = some r) : ∀ b r', own b = some r' → setR own g r b = some r' := fun b r' e => by
  by_cases hb : b = g
  · rw [hb] at e ⊢
    rcases hg with h | h <;> rw [h] at e <;> cases e
    exact setR_same _ _ _
  · rw [setR_other _ _ hb]; exact e

section
variable {w : World} {own : Nat → Option Role} {d bn bk : Nat} {loc : Nat → Nat} {s : DS} {L : Nat → Prop}

theorem Kept.setNew {a w : World} {o o' : Nat → Option Role} (h : Kept a w o o') {p : Addr} (hp : a.heap.size ≤ p.block) (u : Value) : Kept a (w.setCell p u) o o' :=
  ⟨h.os, h.tape, h.output, by simpa [World.setCell] using h.size, fun b hb hn => (Below.heap_setCell _ _ _ _ (by omega)).trans (h.block b hb hn), h.more⟩
/-- More blocks are the disk's. -/
theorem At.roles (h : At w own d bn bk loc s L) {own' : Nat → Option Role} (hm : ∀ b r, own b = some r → own' b = some r) (lt : ∀ b r, own' b = some r → b < w.heap.size) : At w own' d bn bk loc s L := by
  obtain ⟨vw, b1, b2, b3⟩ := h.blk
  refine ⟨hm _ _ h.rd, hm _ _ h.rn, hm _ _ h.rk, lt, ⟨vw, b1, b2, fun b e => hm _ _ (b3 b e)⟩, h.nowM, h.keptM, fun i f hf hL => ?_⟩
  obtain ⟨h1, v, h2, h3, h4⟩ := h.file i f hf hL
  exact ⟨hm _ _ h1, v, h2, h3, fun c e => hm _ _ (h4 c e)⟩
theorem grown_trans {a b c : World} {row : Option Nat} (h : a.grownBy b row) (k : b.grownBy c row) : a.grownBy c row :=
  ⟨k.os.trans h.os, k.tape.trans h.tape, k.output.trans h.output, Nat.le_trans h.size k.size, fun i hi hn => (k.block i (Nat.lt_of_lt_of_le hi h.size) hn).trans (h.block i hi hn)⟩
theorem grown_ad {a c : World} {o : Obj} {row : Option Nat} (k : (a.alloc o).drew.grownBy c row) : a.grownBy c row :=
  grown_trans (b := (a.alloc o).drew) ⟨rfl, rfl, rfl, by simp, fun i hi _ => Below.heap_alloc _ _ _ hi⟩ k
theorem info_wk : (Tryz.prog.info? 158).map (fun i => (i.zero, i.size, i.bytes)) = some (some (.agg #[.string ⟨#[]⟩, .string ⟨#[]⟩, .pointer none]), 3, 40) := by kernel_rfl
theorem three_cells (w : World) (x y z : Value) (t : TypeId) (H : Nat) (hH : w.heap.size = H) : ∀ j u, [x, y, z][j]? = some u → (w.alloc (.cells #[x, y, z] t)).cell? ((⟨H, 0, none⟩ : Addr).add j) = some u := by
  subst hH
  intro j u hu
  rcases j with _ | _ | _ | j
  · simp at hu
    subst hu
    simp [Addr.add]
  · simp at hu
    subst hu
    simp [Addr.add]
  · simp at hu
    subst hu
    simp [Addr.add]
  · simp at hu

/-- One work more is remembered: the slice of works is another one. -/
theorem At.setWorks (h : At w own d bn bk loc s L) {w' : World} {row : Option Nat} {v : Value} {l : List Wk} {own' : Nat → Option Role} (hg : w.grownBy w' row)
    (hr : ∀ c, row = some c → own c = none ∨ own c = some .works) (hm : ∀ b r, own b = some r → own' b = some r) (lt : ∀ b r, own' b = some r → b < w'.heap.size)
    (hv : w'.ownsRow 0 158 3 v l.length (wksCells loc l)) (ho : ∀ c, v.ownBlock = some c → own' c = some .works) (hd : ∀ c, v.ownBlock = some c → c ≠ d) :
    At (w'.setCell ⟨d, 6, none⟩ v) own' d bn bk loc { s with works := l } L := by
  obtain ⟨vw, b1, b2, b3⟩ := h.blk
  have no : ∀ b r, own b = some r → r ≠ .works → some b ≠ row := fun b r e n e' => by
    rcases hr b e'.symm with h0 | h0 <;> rw [h0] at e <;> cases e
    exact n rfl
  have hg2 := grown_set w' ⟨d, 6, none⟩ v
  refine ⟨hm _ _ h.rd, hm _ _ h.rn, hm _ _ h.rk, fun b r e => by have := lt b r e; simpa [World.setCell] using this, ⟨v, ?_, ?_, ho⟩, ?_, ?_, ?_⟩
  · exact (b1.same (hg.block d b1.lt (no _ _ h.rd (by simp)))).set 6 v
  · exact World.ownsRow.kept hv hg2 (by
      cases e : v.ownBlock with
      | none => exact .inl rfl
      | some c => exact .inr fun e2 => by cases e2; exact hd _ e rfl)
  · exact mapAt_grown (mapAt_grown h.nowM hg (no _ _ h.rn (by simp))) hg2 fun e => by cases e; have := h.rn; rw [h.rd] at this; cases this
  · exact mapAt_grown (mapAt_grown h.keptM hg (no _ _ h.rk (by simp))) hg2 fun e => by cases e; have := h.rk; rw [h.rd] at this; cases this
  · intro i f hf hL
    have f1 := h.file i f hf hL
    have f2 := fileAt_grown f1 hg fun c e => by rcases hr c e with h0 | h0 <;> rw [h0] <;> simp
    obtain ⟨h1, u, h2, h3, h4⟩ := fileAt_grown f2 hg2 fun c e => by cases e; rw [h.rd]; simp
    exact ⟨hm _ _ h1, u, h2, h3, fun c e => hm _ _ (h4 c e)⟩

set_option maxHeartbeats 1000000 in
set_option maxRecDepth 20000 in
theorem change_any (h : At w own d bn bk loc s L) (G V : ByteArray) (o : Option Nat) (hG : G.size ≤ 281474976710656) (hV : V.size ≤ 281474976710656) (hx : DoOk s.files s.used s.now s.kept L ⟨G.data.toList, V.data.toList, o⟩) (hw : s.works.length ≤ 1099511627776) :
    Calls Tryz.prog 129 #[.pointer (some ⟨d, 0, none⟩), .agg #[.string G, .string V, pv (o.map loc)]] w
      (fun e w' => e = .returned (.tuple #[]) ∧ ∃ own', At w' own' d bn bk loc (changeE s ⟨G.data.toList, V.data.toList, o⟩) L ∧ Kept w w' own own') := by
  obtain ⟨W, hW, A0, B0, K0⟩ : ∃ W, W = w.alloc (.cells #[.string G, .string V, pv (o.map loc)] 158) ∧ At W.drew own d bn bk loc s L ∧ Blk W.drew w.heap.size [.string G, .string V, pv (o.map loc)] 158 ∧ Kept w W.drew own own :=
    ⟨_, rfl, (h.alloc _).drew, heap_alloc_new w _, (Kept.of_below ((Below.refl _ _).alloc (Nat.le_refl _) _) own).drew⟩
  have q0 := B0.cell 0 _ rfl
  have q1 := B0.cell 1 _ rfl
  have y0 := B0.free 0
  have y1 := B0.free 1
  go_enter Tryz.func129, Tryz.ntmps129
  go_wp2_with fail
  rw [← hW]
  clear hW
  go_cut [] (fun wx => At wx own d bn bk loc s L ∧ Blk wx w.heap.size [.string G, .string V, pv (o.map loc)] 158 ∧ Kept w wx own own)
  case first =>
    go_region_with (first
      | (go_at_call 141; (with_reducible refine (sclone_any G _ hG).mono ?_); rintro e w1 ⟨rfl, hb⟩; replace A0 := A0.below hb; replace K0 := K0.trans (Kept.of_below hb own); replace B0 := B0.same (hb.block _ B0.lt); replace q0 := B0.cell 0 _ rfl; replace q1 := B0.cell 1 _ rfl; replace y0 := B0.free 0; replace y1 := B0.free 1; clear hb)
      | (go_at_call 141; (with_reducible refine (sclone_any V _ hV).mono ?_); rintro e w1 ⟨rfl, hb⟩; replace A0 := A0.below hb; replace K0 := K0.trans (Kept.of_below hb own); replace B0 := B0.same (hb.block _ B0.lt); replace q0 := B0.cell 0 _ rfl; replace q1 := B0.cell 1 _ rfl; replace y0 := B0.free 0; replace y1 := B0.free 1; clear hb))
    all_goals
      go_wp2_with fail
      go_meet
      have hn : own w.heap.size = none := by
        cases e : own w.heap.size with
        | none => rfl
        | some r => have := h.lt _ r e; omega
      exact ⟨(A0.grown (grown_set _ _ _) (fun c e => by cases e; exact hn)).grown (grown_set _ _ _) (fun c e => by cases e; exact hn), (B0.set 0 _).set 1 _, (K0.setNew (Nat.le_refl _) _).setNew (Nat.le_refl _) _⟩
  case rest =>
    clear A0 B0 K0 q0 q1 y0 y1
    obtain ⟨A1, B1, K1⟩ := hcut
    have q0 := B1.cell 0 _ rfl
    have q1 := B1.cell 1 _ rfl
    have q2 := B1.cell 2 _ rfl
    have c4 := A1.cellD 4 _ fun _ => rfl
    go_wp2_with fail
    go_still_tail 6, (by kernel_rfl)
    have A2 := A1.drew
    have B2 : Blk wc.drew w.heap.size [.string G, .string V, pv (o.map loc)] 158 := B1
    have hn : own w.heap.size = none := by
      cases e : own w.heap.size with
      | none => rfl
      | some r => have := h.lt _ r e; omega
    go_wp2_with fail
    refine (doNow_any A2 G V o (by unfold maxLen; omega) (by unfold maxLen; omega) hx).mono ?_
    rintro e w2 ⟨rfl, A3, K3⟩
    clear q0 q1 q2 c4
    have B3 := B2.same (K3.block _ B2.lt hn)
    have K13 := K1.drew.trans K3
    clear A1 A2 B1 B2 K1 K3
    have HD := Lib.hid A3
    obtain ⟨vw, b1, b2, b3⟩ := A3.blk
    have hlw : s.works.length = (doNowE s ⟨G.data.toList, V.data.toList, o⟩).works.length := rfl
    have HW := Lib.hid b3
    have q0 := B3.cell 0 _ rfl
    have q1 := B3.cell 1 _ rfl
    have q2 := B3.cell 2 _ rfl
    have c6 := b1.cell 6 vw rfl
    have z6 := b1.free 6
    have hdl := b1.lt
    have hnl := B3.lt
    have hdn : d ≠ w.heap.size := fun e => by rw [← e, h.rd] at hn; cases hn
    have hwl := World.ownsRow.lt b2
    obtain ⟨po, hpo⟩ : ∃ po : Option Addr, pv (o.map loc) = .pointer po := ⟨_, rfl⟩
    rw [hpo] at q2
    have HPO := Lib.hid hpo
    clear hpo
    obtain ⟨i0, hi, hz0, hz1, hz2⟩ := info_parts info_wk
    have HBD : Hid (some d ≠ vw.ownBlock) := Lib.hid (fun e => by have := b3 d e.symm; rw [h.rd] at this; cases this)
    have HD1 := Lib.hid b1
    have HB := Lib.hid B3
    have HK := Lib.hid K13
    clear A3 b1 b3 B3 K13
    go_wp2_with fail
    go_region_law ((refine step_append_lies _ (by rfl) _ _ 76 (by rfl) 0 158 i0 (.agg #[.string ⟨#[]⟩, .string ⟨#[]⟩, .pointer none]) 3 40 Tryz.underlying76 hi hz0 hz1 hz2 rfl (by omega) vw s.works.length (wksCells loc s.works) (by rfl) (World.ownsRow.alloc (World.ownsRow.drew b2) _) ⟨w2.heap.size, 0, none⟩ 1 1 [.string G, .string V, .pointer po] (by rfl) (by rfl) (three_cells _ _ _ _ _ _ (by simp)) (by simp [Value.oneCell']) (by omega) (by simp only [maxLen]; omega) (by omega) (by simp) _ rfl ?_; intro g cap w3 hown3 hgrow hat hlt; have D3 := HD1.out.same ((hgrow.block d (by simp; omega) HBD.out).trans (Below.heap_alloc _ _ d (by simpa using hdl))); have c6' := D3.cell 6 vw rfl; have z6' := D3.free 6; clear D3))
    all_goals
      go_end0
      clear c6' z6' c6 z6 q0 q1 q2
      have hA := HD.out
      have hg3 : w2.grownBy w3 vw.ownBlock := grown_ad hgrow
      have hgw : own g = some .works ∨ w2.heap.size ≤ g := by
        rcases hat with e | e
        · exact .inl (HW.out g e)
        · exact .inr (by rw [e]; simp)
      have hgd : g ≠ d := by
        rcases hgw with e | e
        · intro e2; rw [e2, h.rd] at e; cases e
        · omega
      refine ⟨rfl, setR own g .works, ?_, ?_⟩
      · have hc : wksCells loc (s.works ++ [⟨G.data.toList, V.data.toList, o⟩]) = wksCells loc s.works ++ [.string G, .string V, .pointer po] := by
          unfold wksCells
          rw [List.map_append, List.flatten_append]
          simp [wkCells, sv_of, HPO.out]
        have hl : (s.works ++ [(⟨G.data.toList, V.data.toList, o⟩ : Wk)]).length = s.works.length + 1 := by simp
        exact hA.setWorks (own' := setR own g .works) (l := s.works ++ [⟨G.data.toList, V.data.toList, o⟩]) hg3 (fun c e => .inr (HW.out c e))
          (setR_more (by
            rcases hgw with e2 | e2
            · exact .inr e2
            · refine .inl ?_
              cases e : own g with
              | none => rfl
              | some r => have := hA.lt _ _ e; omega))
          (fun b r e => by
            rcases setR_some e with e2 | e2
            · rw [e2]; exact hlt
            · exact Nat.lt_of_lt_of_le (hA.lt _ _ e2) hg3.size)
          (by rw [hc, hl]; exact hown3) (fun c e => by cases e; exact setR_same _ _ _) (fun c e => by cases e; exact hgd)
      · refine (HK.out.trans (o3 := setR own g .works) ⟨hg3.os, hg3.tape, hg3.output, hg3.size, fun b hb hnb => hg3.block b hb (fun e => by rw [HW.out b e.symm] at hnb; cases hnb), fun b hb => ?_⟩).set (by
          rw [setR_other _ _ (fun e => hgd e.symm), h.rd]; simp) _
        by_cases hbg : b = g
        · rw [hbg]
          rcases hgw with e | e
          · exact .inl (by rw [e]; simp)
          · exact .inr e
        · rw [setR_other _ _ hbg] at hb
          exact .inl hb
end
end Go.Proofs.YtncpkblgiepdpaaGreat
