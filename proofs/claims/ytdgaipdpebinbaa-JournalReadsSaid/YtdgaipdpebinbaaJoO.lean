/- Open of a journal: its works in turn, and Open itself: contracts over the translated program. No condition but that the disk lies in memory as said, and what each statement names. -/
import Derived.Test.YtdgaipdpebinbaaJoI
set_option linter.unusedVariables false
set_option linter.unusedSimpArgs false
namespace Go.Proofs.Ytdgaipdpebinbaa
open Go.RowKit Go.Maps Go.Shelf Go.Sort

/-- Where the works of Open stand behind the first k of them. -/
def OpnAt (s : DS) (k : Nat) (S : DS) (l : List BS) : Prop :=
  (k = 0 ∧ S = s ∧ l = []) ∨ (k = 1 ∧ S = clrE s ∧ l = []) ∨ (k = 2 ∧ S = (fndE (clrE s)).1 ∧ l = (fndE (clrE s)).2.1 ∧ (fndE (clrE s)).2.2 = 0) ∨
  (k = 3 ∧ S = (dE (fndE (clrE s)).1 ⟨1, jn, [], []⟩).1 ∧ l = (fndE (clrE s)).2.1 ∧ (fndE (clrE s)).2.2 = 0) ∨ (k = 4 ∧ S = (opnE s).1 ∧ l = (opnE s).2.1 ∧ (opnE s).2.2 = 0)
theorem opn_ok {s : DS} (h : (fndE (clrE s)).2.2 = 0) : opnE s = ((dE (dE (fndE (clrE s)).1 ⟨1, jn, [], []⟩).1 ⟨4, [], [], []⟩).1, (fndE (clrE s)).2.1, 0) := by unfold opnE; rw [if_pos h]
theorem opn_bad {s : DS} (h : (fndE (clrE s)).2.2 ≠ 0) : opnE s = ((fndE (clrE s)).1, [], (fndE (clrE s)).2.2) := by unfold opnE; rw [if_neg h]
/-- The four works. -/
def opnF (p q d : Nat) : List Value := [.func (.func 44) #[] #[.pointer (some ⟨p, 0, none⟩)], .func (.func 46) #[] #[.pointer (some ⟨p, 0, none⟩), .pointer (some ⟨q, 0, none⟩)],
  .func (.func 48) #[] #[.pointer (some ⟨p, 0, none⟩)], .func (.func 31) #[.pointer (some ⟨d, 0, none⟩)] #[]]
section
variable {w : World} {own : Nat → Option Role} {d : Nat} {s : DS} {k m r : Nat}
set_option maxHeartbeats 4000000 in
set_option maxRecDepth 40000 in
theorem turn_open {p q g : Nat} (hB : Box w own p q d (.slice none 0 0)) (hD : DiskIn w own d s) (hR : Run s k m r) (hk : k ≤ 900) (hm : m ≤ 1000000) (hr : r ≤ 16777216) (a : World) (o : Nat → Option Role) (ha : a.heap.size ≤ q) (hKa : Kept a w o own) (gt : TypeId) (hG : Blk w g (opnF p q d) gt) (hgn : own g = none) (hgq : g ≠ q) :
    Calls Try.prog 43 #[.slice (some ⟨g, 0, none⟩) 4 4] w (fun e w' => ∃ v own', e = .returned (.int .i64 ((opnE s).2.2 : Nat)) ∧ DiskIn w' own' d (opnE s).1 ∧ Box w' own' p q d v ∧ Kept a w' o own' ∧ ((opnE s).2.2 = 0 → Rows2 w' own' v (opnE s).2.1)) := by
  have hR1 := run_clr hR
  have hR2 := run_fnd hR1
  have hR3 := run_d hR2 (x := ⟨1, jn, [], []⟩) ⟨by show 7 ≤ 40; omega, by show 0 ≤ 40; omega⟩
  go_enter Try.func43, Try.ntmps43
  go_wp2_with fail
  go_loopw [8] (fun i wr => ∃ (j : Nat) (S : DS) (l : List BS) (v : Value) (own' : Nat → Option Role), i = .int .i64 (j : Int) ∧ OpnAt s j S l ∧ DiskIn wr own' d S ∧ Box wr own' p q d v ∧ Kept a wr o own' ∧ Blk wr g (opnF p q d) gt ∧ own' g = none ∧ Rows2 wr own' v l) (fun i _ => 4 - (intOf i).toNat)
  case atStart => exact ⟨0, s, [], .slice none 0 0, own, rfl, .inl ⟨rfl, rfl, rfl⟩, hD, hB, hKa, hG, hgn, Rows2.nil _ _⟩
  case round =>
    clear hB hD hKa hG hgn
    obtain ⟨j, S, l, v, own', rfl, hAt, hD, hB, hKa, hG, hgn, hRo⟩ := hrel
    rcases hAt with ⟨rfl, rfl, rfl⟩ | ⟨rfl, rfl, rfl⟩ | ⟨rfl, rfl, rfl, h0⟩ | ⟨rfl, rfl, rfl, h0⟩ | ⟨rfl, rfl, rfl, h0⟩
    · have c0 := hG.cell 0 _ rfl
      have hq := open1_any hB hD hR (by omega) hm
      go_wp2_with fail
      refine hq.mono ?_
      rintro e w1 ⟨rfl, own1, hD1, hK1⟩
      have hB1 := hB.kept hK1
      have hG1 := hG.same (hK1.block g hG.lt hgn)
      have hgn1 := free_kept hK1 hG.lt hgn
      have hRo1 := hRo.kept hK1
      clear hB hD hG hRo
      go_wp2_with fail
      exact ⟨⟨1, _, _, v, own1, by go_num, .inr (.inl ⟨rfl, rfl, rfl⟩), hD1, hB1, hKa.trans hK1, hG1, hgn1, hRo1⟩, by simp [intOf]⟩
    · have c0 := hG.cell 1 _ rfl
      have hq := open2_any hB hD hR1 (by omega) hm hr a o ha hKa g _ gt hG hgn hgq
      by_cases h0 : (fndE (clrE s)).2.2 = 0
      · rw [h0] at hq
        clear hB hD hG hRo
        go_wp2_with fail
        refine hq.mono ?_
        rintro e w1 ⟨v1, own1, rfl, hD1, hB1, hr1, hK1, hG1, hgn1⟩
        go_wp2_with fail
        exact ⟨⟨2, _, _, v1, own1, by go_num, .inr (.inr (.inl ⟨rfl, rfl, rfl, h0⟩)), hD1, hB1, hK1, hG1, hgn1, hr1⟩, by simp [intOf]⟩
      · have eb := opn_bad h0
        have hne : ((((fndE (clrE s)).2.2 : Nat) : Int) != 0) = true := by simp; omega
        have EB := Lib.hid eb
        have H0 := Lib.hid h0
        obtain ⟨z, hz⟩ : ∃ z : Nat, z = (fndE (clrE s)).2.2 := ⟨_, rfl⟩
        rw [← hz] at hq hne
        have HZ := Lib.hid hz
        clear hB hD hG hRo h0 eb hz
        go_wp2_with fail
        refine hq.mono ?_
        rintro e w1 ⟨v1, own1, rfl, hD1, hB1, hr1, hK1, hG1, hgn1⟩
        go_wp2_with fail
        go_ret
        rw [EB.out]
        exact ⟨v1, own1, by rw [HZ.out]; rfl, hD1, hB1, hK1, fun h => absurd h H0.out⟩
    · have c0 := hG.cell 2 _ rfl
      have hq := open3_any hB hD hR2 (by omega) hm
      rw [fnd_sync hR1 h0] at hq
      go_wp2_with fail
      refine hq.mono ?_
      rintro e w1 ⟨rfl, own1, hD1, hK1⟩
      have hB1 := hB.kept hK1
      have hG1 := hG.same (hK1.block g hG.lt hgn)
      have hgn1 := free_kept hK1 hG.lt hgn
      have hRo1 := hRo.kept hK1
      clear hB hD hG hRo
      go_wp2_with fail
      exact ⟨⟨3, _, _, v, own1, by go_num, .inr (.inr (.inr (.inl ⟨rfl, rfl, rfl, h0⟩))), hD1, hB1, hKa.trans hK1, hG1, hgn1, hRo1⟩, by simp [intOf]⟩
    · have c0 := hG.cell 3 _ rfl
      have hq := open4_any hD hR3 (by omega) hm
      have eo := opn_ok h0
      go_wp2_with fail
      refine hq.mono ?_
      rintro e w1 ⟨rfl, own1, hD1, hK1⟩
      have hB1 := hB.kept hK1
      have hG1 := hG.same (hK1.block g hG.lt hgn)
      have hgn1 := free_kept hK1 hG.lt hgn
      have hRo1 := hRo.kept hK1
      have EO := Lib.hid eo
      clear hB hD hG hRo eo
      go_wp2_with fail
      exact ⟨⟨4, _, _, v, own1, by go_num, .inr (.inr (.inr (.inr ⟨rfl, by rw [EO.out], by rw [EO.out], by rw [EO.out]⟩))), hD1, hB1, hKa.trans hK1, hG1, hgn1, hRo1⟩, by simp [intOf]⟩
    · go_wp2_with fail
      go_ret
      exact ⟨v, own', by rw [h0]; rfl, hD, hB, hKa, fun _ => hRo⟩
/-- What Open of a journal leaves. -/
def GotOpn (w : World) (own : Nat → Option Role) (d : Nat) (s : DS) (e : Ending) (w' : World) : Prop :=
  ((opnE s).2.2 ≠ 0 ∧ e = .returned (.tuple #[.pointer none, .slice none 0 0, .int .i64 ((opnE s).2.2 : Nat)]) ∧ ∃ own', DiskIn w' own' d (opnE s).1 ∧ Kept w w' own own') ∨
  ((opnE s).2.2 = 0 ∧ ∃ J v own', e = .returned (.tuple #[.pointer (some ⟨J, 0, none⟩), v, .int .i64 0]) ∧ DiskIn w' own' d (opnE s).1 ∧ Kept w w' own own' ∧ w.heap.size ≤ J ∧ JIn w' own' J d (opnE s).2.1.length (opnE s).2.1.length false ∧ Rows2 w' own' v (opnE s).2.1)
set_option maxHeartbeats 4000000 in
set_option maxRecDepth 40000 in
theorem open_any (hD : DiskIn w own d s) (hR : Run s k m r) (hk : k ≤ 900) (hm : m ≤ 1000000) (hr : r ≤ 16777216) :
    Calls Try.prog 16 #[.pointer (some ⟨d, 0, none⟩)] w (GotOpn w own d s) := by
  have hmf : ∀ (fn : Fn) (first cap : Array Value) (w : World), (Instr.makeFunc fn first cap).run Try.prog w = .ok (.func fn first cap) w := fun _ _ _ _ => rfl
  go_enter Try.func16, Try.ntmps16
  go_wp2_with fail
  have hN : ∀ j, w.heap.size ≤ j → own j = none := fun j hj => own_new hD hj
  obtain ⟨W, hWe, bp, bq, bg, hbl⟩ : ∃ W, W = (((w.alloc (.cells #[.pointer (some ⟨d, 0, none⟩)] 24)).alloc (.cells #[.slice none 0 0] 28)).alloc (.cells (opnF w.heap.size (w.heap.size + 1) d).toArray 49)) ∧ Blk W w.heap.size [.pointer (some ⟨d, 0, none⟩)] 24 ∧ Blk W (w.heap.size + 1) [.slice none 0 0] 28 ∧ Blk W (w.heap.size + 1 + 1) (opnF w.heap.size (w.heap.size + 1) d) 49 ∧ Below w.heap.size w W :=
    ⟨_, rfl, alls_at w [.cells #[.pointer (some ⟨d, 0, none⟩)] 24, .cells #[.slice none 0 0] 28, .cells (opnF w.heap.size (w.heap.size + 1) d).toArray 49] 0 (by simp),
      alls_at w [.cells #[.pointer (some ⟨d, 0, none⟩)] 24, .cells #[.slice none 0 0] 28, .cells (opnF w.heap.size (w.heap.size + 1) d).toArray 49] 1 (by simp),
      alls_at w [.cells #[.pointer (some ⟨d, 0, none⟩)] 24, .cells #[.slice none 0 0] 28, .cells (opnF w.heap.size (w.heap.size + 1) d).toArray 49] 2 (by simp),
      alls_below w [.cells #[.pointer (some ⟨d, 0, none⟩)] 24, .cells #[.slice none 0 0] 28, .cells (opnF w.heap.size (w.heap.size + 1) d).toArray 49]⟩
  have hDW : DiskIn W own d s := by
    obtain ⟨bn, bk, loc, hA⟩ := hD
    exact ⟨bn, bk, loc, hA.below hbl⟩
  have hBW : Box W own w.heap.size (w.heap.size + 1) d (.slice none 0 0) := ⟨bp, bq, hN _ (Nat.le_refl _), hN _ (by omega), by omega⟩
  have ht := turn_open hBW hDW hR hk hm hr w own (by omega) (Kept.of_below hbl own) _ bg (hN _ (by omega)) (by omega)
  rw [hWe] at ht
  clear hWe bp bq bg hDW hBW
  have HO : Hid (GotOpn w own d s = GotOpn w own d s) := rfl
  by_cases h0 : (opnE s).2.2 = 0
  · have H0 := Lib.hid h0
    rw [h0] at ht
    refine ht.mono ?_
    rintro e w1 ⟨v, own1, rfl, hD1, hB1, hK1, hr1⟩
    have hr2 := hr1 rfl
    have HR2 := Lib.hid hr2
    obtain ⟨A2, c2, rfl, _, _, _, _⟩ := hr2
    have c0 := hB1.bp.cell 0 _ rfl
    have c1 := hB1.bq.cell 0 _ rfl
    have l0 := hB1.bp.lt
    have l1 := hB1.bq.lt
    have HB1 := Lib.hid hB1
    have HD1 := Lib.hid hD1
    clear ht h0 hr1 hB1 hD1
    go_wp2_with fail
    go_region
    go_wp2_with fail
    go_ret3
    have hb : Below w1.heap.size w1 (w1.alloc (.cells #[.pointer (some ⟨d, 0, none⟩), .int .i64 ((opnE s).2.1.length : Int), .int .i64 ((opnE s).2.1.length : Int), .bool false] 84)).drew := ((Below.refl _ w1).alloc (Nat.le_refl _) _).drew
    have hK := Kept.of_below hb own1
    have hDD : DiskIn (w1.alloc (.cells #[.pointer (some ⟨d, 0, none⟩), .int .i64 ((opnE s).2.1.length : Int), .int .i64 ((opnE s).2.1.length : Int), .bool false] 84)).drew own1 d (opnE s).1 := by
      obtain ⟨bn, bk, loc, hA⟩ := HD1.out
      exact ⟨bn, bk, loc, hA.below hb⟩
    exact .inr ⟨H0.out, w1.heap.size, .slice A2 (opnE s).2.1.length c2, own1, rfl, hDD, hK1.trans hK, hK1.size, ⟨heap_alloc_new w1 _, own_new HD1.out (Nat.le_refl _)⟩, HR2.out.kept hK⟩
  · have H0 := Lib.hid h0
    obtain ⟨z, hz⟩ : ∃ z : Nat, z = (opnE s).2.2 := ⟨_, rfl⟩
    have hne : ((z : Int) != 0) = true := by rw [hz]; simp; omega
    rw [← hz] at ht
    have HZ := Lib.hid hz
    refine ht.mono ?_
    rintro e w1 ⟨v, own1, rfl, hD1, hB1, hK1, hr1⟩
    clear ht h0 hz hr1
    go_wp2_with fail
    go_ret3
    exact .inl ⟨H0.out, by rw [← HZ.out]; rfl, own1, hD1, hK1⟩
end
end Go.Proofs.Ytdgaipdpebinbaa
