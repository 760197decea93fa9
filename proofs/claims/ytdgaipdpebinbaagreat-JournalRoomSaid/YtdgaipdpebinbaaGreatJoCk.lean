/- A checkpoint of a journal: contracts over the translated program. No condition but that the journal and its disk lie in memory as said, and what each statement names. -/
import Derived.Test.YtdgaipdpebinbaaGreatJoA
import Derived.StillTailTactics
import Derived.Deep.RegionHeld3
set_option linter.unusedVariables false
set_option linter.unusedSimpArgs false
namespace Go.Proofs.YtdgaipdpebinbaaGreat
open Go.RowKit Go.Maps Go.Shelf Go.Sort
section
variable {w : World} {own : Nat → Option Role} {d J cnt kp : Nat} {s : DS} {k m r : Nat}
set_option maxHeartbeats 1000000 in
theorem chk1_any {p q : Nat} {br : Bool} (hp : VarAt w own p (.pointer (some ⟨J, 0, none⟩)) 43) (hJ : JIn w own J d cnt kp br) {A : Option Addr} {n c : Nat} {b : BS} (hq : VarAt w own q (.slice A n c) 22) (hl : b.length = n) (hr : Rd w A b) (hO : 0 < b.length → ∀ p, A = some p → own p.block = none) (hn : n ≤ 1000000)
    (hD : DiskIn w own d s) (hR : Run s k m r) (hk : k ≤ 1000) (hm : m ≤ 1000000) (hr16 : r ≤ 16777216) :
    Calls Tryz.prog 81 #[.pointer (some ⟨p, 0, none⟩), .pointer (some ⟨q, 0, none⟩)] w (GotA w own d (.int .i64 ((dE s ⟨0, jx, [], b⟩).2 : Nat)) (dE s ⟨0, jx, [], b⟩).1) := by
  have c0 := hp.1.cell 0 _ rfl
  have c1 := hJ.1.cell 0 _ rfl
  have c2 := hq.1.cell 0 _ rfl
  have hd : Below w.heap.size w w.drew := Below.drew (Below.refl _ _)
  have happ : Calls Tryz.prog 48 #[.pointer (some ⟨d, 0, none⟩), .string ⟨#[106, 111, 117, 114, 110, 97, 108, 46, 110, 101, 119]⟩, .slice A n c] w.drew (GotA w.drew own d (.int .i64 ((dE s ⟨0, jx, [], b⟩).2 : Nat)) (dE s ⟨0, jx, [], b⟩).1) := by
    obtain ⟨bn, bk, loc, hA⟩ := hD
    exact append_any (hA.below hd) (good_of hR.inv (hR.bnd.mono hk hm)) hR.live ⟨#[106, 111, 117, 114, 110, 97, 108, 46, 110, 101, 119]⟩ rfl A n c b hl (hr.below hd) hO (by omega) (by rw [hR.room]; exact hr16)
  clear hl hr hO
  go_enter Tryz.func81, Tryz.ntmps81
  go_wp2_with fail
  go_region_law (go_simp; go_at_call 48; refine happ.mono ?_; rintro e w1 ⟨rfl, own1, hD1, hK1⟩)
  all_goals
    go_wp2_with fail
    go_ret
    exact ⟨rfl, own1, hD1, (Kept.of_below hd own).trans hK1⟩
set_option maxHeartbeats 1000000 in
theorem chk2_any {p : Nat} {br : Bool} (hp : VarAt w own p (.pointer (some ⟨J, 0, none⟩)) 43) (hJ : JIn w own J d cnt kp br)
    (hD : DiskIn w own d s) (hR : Run s k m r) (hk : k ≤ 1000) (hm : m ≤ 1000000) :
    Calls Tryz.prog 82 #[.pointer (some ⟨p, 0, none⟩)] w (GotA w own d (.int .i64 ((dE s ⟨1, jx, [], []⟩).2 : Nat)) (dE s ⟨1, jx, [], []⟩).1) := by
  have c0 := hp.1.cell 0 _ rfl
  have c1 := hJ.1.cell 0 _ rfl
  have hq : Calls Tryz.prog 68 #[.pointer (some ⟨d, 0, none⟩), .string ⟨#[106, 111, 117, 114, 110, 97, 108, 46, 110, 101, 119]⟩] w (GotA w own d (.int .i64 ((dE s ⟨1, jx, [], []⟩).2 : Nat)) (dE s ⟨1, jx, [], []⟩).1) := by
    obtain ⟨bn, bk, loc, hA⟩ := hD
    exact sync_any hA (good_of hR.inv (hR.bnd.mono hk hm)) hR.live ⟨#[106, 111, 117, 114, 110, 97, 108, 46, 110, 101, 119]⟩ (by unfold maxLen; decide)
  go_enter Tryz.func82, Tryz.ntmps82
  go_wp2_with fail
  refine hq.mono ?_
  rintro e w1 ⟨rfl, own1, hD1, hK1⟩
  go_wp2_with fail
  go_ret
  exact ⟨rfl, own1, hD1, hK1⟩
set_option maxHeartbeats 1000000 in
theorem chk3_any {p : Nat} {br : Bool} (hp : VarAt w own p (.pointer (some ⟨J, 0, none⟩)) 43) (hJ : JIn w own J d cnt kp br)
    (hD : DiskIn w own d s) (hR : Run s k m r) (hk : k ≤ 1000) (hm : m ≤ 1000000) :
    Calls Tryz.prog 83 #[.pointer (some ⟨p, 0, none⟩)] w (GotA w own d (.int .i64 ((dE s ⟨2, jx, jn, []⟩).2 : Nat)) (dE s ⟨2, jx, jn, []⟩).1) := by
  have c0 := hp.1.cell 0 _ rfl
  have c1 := hJ.1.cell 0 _ rfl
  have hq : Calls Tryz.prog 84 #[.pointer (some ⟨d, 0, none⟩), .string ⟨#[106, 111, 117, 114, 110, 97, 108, 46, 110, 101, 119]⟩, .string ⟨#[106, 111, 117, 114, 110, 97, 108]⟩] w (GotA w own d (.int .i64 ((dE s ⟨2, jx, jn, []⟩).2 : Nat)) (dE s ⟨2, jx, jn, []⟩).1) := by
    obtain ⟨bn, bk, loc, hA⟩ := hD
    exact rename_any hA (good_of hR.inv (hR.bnd.mono hk hm)) hR.live ⟨#[106, 111, 117, 114, 110, 97, 108, 46, 110, 101, 119]⟩ ⟨#[106, 111, 117, 114, 110, 97, 108]⟩ (by show 11 ≤ _; omega) rfl
  go_enter Tryz.func83, Tryz.ntmps83
  go_wp2_with fail
  refine hq.mono ?_
  rintro e w1 ⟨rfl, own1, hD1, hK1⟩
  go_wp2_with fail
  go_ret
  exact ⟨rfl, own1, hD1, hK1⟩
/-- The four works. -/
def chkF (p q d : Nat) : List Value := [.func (.func 81) #[] #[.pointer (some ⟨p, 0, none⟩), .pointer (some ⟨q, 0, none⟩)], .func (.func 82) #[] #[.pointer (some ⟨p, 0, none⟩)],
  .func (.func 83) #[] #[.pointer (some ⟨p, 0, none⟩)], .func (.func 69) #[.pointer (some ⟨d, 0, none⟩)] #[]]
/-- Where the works stand behind the first j of them. -/
def ChkAt (s : DS) (b : BS) (j : Nat) (S : DS) : Prop := (j = 0 ∧ S = s) ∨ (j = 1 ∧ S = ck1 s b) ∨ (j = 2 ∧ S = ck2 s b) ∨ (j = 3 ∧ S = ck3 s b) ∨ (j = 4 ∧ S = ck4 s b)
set_option maxHeartbeats 4000000 in
set_option maxRecDepth 40000 in
theorem turnC_any {p q g : Nat} {br : Bool} (gt : TypeId) (hG : Blk w g (chkF p q d) gt) (hgn : own g = none) (hp : VarAt w own p (.pointer (some ⟨J, 0, none⟩)) 43) (hJ : JIn w own J d cnt kp br) {A : Option Addr} {n c : Nat} {b : BS} (hq : VarAt w own q (.slice A n c) 22) (hl : b.length = n) (hr : Rd w A b) (hO : 0 < b.length → ∀ p, A = some p → own p.block = none) (hn : n ≤ 100000)
    (hD : DiskIn w own d s) (hR : Run s k m r) (hk : k ≤ 900) (hm : m ≤ 900000) (hr16 : r ≤ 16777216) (hx : rdE s jx = none) (z : Nat) (S : DS) (hz : (s.used + b.length ≤ s.room ∧ z = 0 ∧ S = ck4 s b) ∨ (¬ s.used + b.length ≤ s.room ∧ z = 52 ∧ S = s)) :
    Calls Tryz.prog 62 #[.slice (some ⟨g, 0, none⟩) 4 4] w (GotA w own d (.int .i64 (z : Int)) S) := by
  have hc1 := chk1_any hp hJ hq hl hr hO (by omega) hD hR (by omega) (by omega) hr16
  have hbl : b.length ≤ 100000 := by omega
  rcases hz with ⟨hroom, rfl, rfl⟩ | ⟨hroom, rfl, rfl⟩
  · obtain ⟨z1, z2, z3, r1, r2, r3, _, _, _⟩ := ck_all hR hx hroom
    rw [z1] at hc1
    clear hr hO hl
    go_enter Tryz.func62, Tryz.ntmps62
    go_wp2_with fail
    go_loopw [8] (fun i wr => ∃ (j : Nat) (S : DS) (own' : Nat → Option Role), i = .int .i64 (j : Int) ∧ ChkAt s b j S ∧ (j = 0 → wr = w ∧ own' = own) ∧ DiskIn wr own' d S ∧ VarAt wr own' p (.pointer (some ⟨J, 0, none⟩)) 43 ∧ JIn wr own' J d cnt kp br ∧ Blk wr g (chkF p q d) gt ∧ own' g = none ∧ Kept w wr own own') (fun i _ => 4 - (intOf i).toNat)
    case atStart => exact ⟨0, s, own, rfl, .inl ⟨rfl, rfl⟩, fun _ => ⟨rfl, rfl⟩, hD, hp, hJ, hG, hgn, Kept.refl _ _⟩
    case round =>
      clear hD hp hJ hG hgn
      obtain ⟨j, S, own', rfl, hAt, hst, hD, hp, hJ, hG, hgn, hK⟩ := hrel
      rcases hAt with ⟨rfl, rfl⟩ | ⟨rfl, rfl⟩ | ⟨rfl, rfl⟩ | ⟨rfl, rfl⟩ | ⟨rfl, rfl⟩
      · obtain ⟨rfl, rfl⟩ := hst rfl
        have c0 := hG.cell 0 _ rfl
        go_wp2_with fail
        refine hc1.mono ?_
        rintro e w1 ⟨rfl, own1, hD1, hK1⟩
        have hp1 := hp.kept hK1
        have hJ1 := hJ.kept hK1
        have hG1 := hG.same (hK1.block g hG.lt hgn)
        have hgn1 := free_kept hK1 hG.lt hgn
        clear hc1 hp hJ hG hD
        go_wp2_with fail
        exact ⟨⟨1, _, own1, by go_num, .inr (.inl ⟨rfl, rfl⟩), fun h => by omega, hD1, hp1, hJ1, hG1, hgn1, hK.trans hK1⟩, by simp [intOf]⟩
      · have c0 := hG.cell 1 _ rfl
        have hc := chk2_any hp hJ hD r1 (by omega) (by omega)
        rw [z2] at hc
        clear hc1
        go_wp2_with fail
        refine hc.mono ?_
        rintro e w1 ⟨rfl, own1, hD1, hK1⟩
        have hp1 := hp.kept hK1
        have hJ1 := hJ.kept hK1
        have hG1 := hG.same (hK1.block g hG.lt hgn)
        have hgn1 := free_kept hK1 hG.lt hgn
        clear hc hp hJ hG hD
        go_wp2_with fail
        exact ⟨⟨2, _, own1, by go_num, .inr (.inr (.inl ⟨rfl, rfl⟩)), fun h => by omega, hD1, hp1, hJ1, hG1, hgn1, hK.trans hK1⟩, by simp [intOf]⟩
      · have c0 := hG.cell 2 _ rfl
        have hc := chk3_any hp hJ hD r2 (by omega) (by omega)
        rw [z3] at hc
        clear hc1
        go_wp2_with fail
        refine hc.mono ?_
        rintro e w1 ⟨rfl, own1, hD1, hK1⟩
        have hp1 := hp.kept hK1
        have hJ1 := hJ.kept hK1
        have hG1 := hG.same (hK1.block g hG.lt hgn)
        have hgn1 := free_kept hK1 hG.lt hgn
        clear hc hp hJ hG hD
        go_wp2_with fail
        exact ⟨⟨3, _, own1, by go_num, .inr (.inr (.inr (.inl ⟨rfl, rfl⟩))), fun h => by omega, hD1, hp1, hJ1, hG1, hgn1, hK.trans hK1⟩, by simp [intOf]⟩
      · have c0 := hG.cell 3 _ rfl
        have hc := open4_any hD r3 (by omega) (by omega)
        clear hc1
        go_wp2_with fail
        refine hc.mono ?_
        rintro e w1 ⟨rfl, own1, hD1, hK1⟩
        have hp1 := hp.kept hK1
        have hJ1 := hJ.kept hK1
        have hG1 := hG.same (hK1.block g hG.lt hgn)
        have hgn1 := free_kept hK1 hG.lt hgn
        clear hc hp hJ hG hD
        go_wp2_with fail
        exact ⟨⟨4, _, own1, by go_num, .inr (.inr (.inr (.inr ⟨rfl, rfl⟩))), fun h => by omega, hD1, hp1, hJ1, hG1, hgn1, hK.trans hK1⟩, by simp [intOf]⟩
      · clear hc1
        go_wp2_with fail
        go_ret
        exact ⟨rfl, own', hD, hK⟩
  · have hf := ck_full hroom
    rw [hf] at hc1
    have c0 := hG.cell 0 _ rfl
    clear hr hO hl
    go_enter Tryz.func62, Tryz.ntmps62
    go_wp2_with fail
    go_loopw [8] (fun i wr => i = .int .i64 0 ∧ wr = w) (fun i _ => 1)
    case atStart => exact ⟨rfl, rfl⟩
    case round =>
      obtain ⟨rfl, rfl⟩ := hrel
      go_wp2_with fail
      refine hc1.mono ?_
      rintro e w1 ⟨rfl, own1, hD1, hK1⟩
      go_wp2_with fail
      go_ret
      exact ⟨rfl, own1, hD1, hK1⟩
set_option maxHeartbeats 1000000 in
theorem doesC_any {g : Nat} {br : Bool} {z : Nat} {S : DS} (hJ : JIn w own J d cnt kp br) (hz : z = 0 ∨ z = 52)
    (ht : Calls Tryz.prog 62 #[.slice (some ⟨g, 0, none⟩) 4 4] w (GotA w own d (.int .i64 (z : Int)) S)) :
    Calls Tryz.prog 76 #[.pointer (some ⟨J, 0, none⟩), .slice (some ⟨g, 0, none⟩) 4 4] w (fun e w' => e = .returned (.int .i64 (z : Int)) ∧ ∃ own', DiskIn w' own' d S ∧ Kept w w' (jo own J) (jo own' J) ∧ JIn w' own' J d cnt kp false) := by
  rcases hz with rfl | rfl
  all_goals
    go_enter Tryz.func76, Tryz.ntmps76
    go_wp2_with fail
    refine ht.mono ?_
    rintro e w1 ⟨rfl, own1, hD1, hK1⟩
    have hJ1 := hJ.kept hK1
    have c3 := hJ1.1.cell 3 _ rfl
    have z3 := hJ1.1.free 3
    clear ht
    go_wp2_with fail
    go_ret
    have hg := grown_set w1 ⟨J, 3, none⟩ (.bool false)
    obtain ⟨bn, bk, loc, hA1⟩ := hD1
    exact ⟨rfl, own1, ⟨bn, bk, loc, hA1.grown hg fun c e => by cases e; exact hJ1.2⟩, (hK1.jo J).set (p := ⟨J, 3, none⟩) (jo_at _ _) _, hJ1.1.set 3 _, hJ1.2⟩
/-- What a checkpoint makes of a disk. -/
def ckE (s : DS) (l : List BS) : DS × Nat := if s.used + (catR 1 l).length ≤ s.room then (ck4 s (catR 1 l), 0) else (s, 52)
set_option maxHeartbeats 4000000 in
set_option maxRecDepth 40000 in
theorem jcheck_any (hJ : JIn w own J d cnt kp false) (hD : DiskIn w own d s) (hR : Run s k m r) (hk : k ≤ 900) (hm : m ≤ 900000) (hr16 : r ≤ 16777216) (hx : rdE s jx = none) (A : Option Addr) (n c : Nat) (l : List BS) (hl : l.length = n) (hr : RdL w A l) (hn : n ≤ 60) (hs : ∀ b ∈ l, b.length ≤ 1000) :
    Calls Tryz.prog 31 #[.pointer (some ⟨J, 0, none⟩), .slice A n c] w (GotJ w own J d (.int .i64 ((ckE s l).2 : Nat)) (ckE s l).1 (if (ckE s l).2 = 0 then n else cnt) (if (ckE s l).2 = 0 then n else kp)) := by
  have hmf : ∀ (fn : Fn) (first cap : Array Value) (w : World), (Instr.makeFunc fn first cap).run Tryz.prog w = .ok (.func fn first cap) w := fun _ _ _ _ => rfl
  have HJ := Lib.hid hJ
  have HD := Lib.hid hD
  have HL := Lib.hid hl
  have jlt := hJ.1.lt
  have c1 := hJ.1.cell 0 _ rfl
  have hne : J ≠ w.heap.size := by omega
  have hN : ∀ j, w.heap.size ≤ j → own j = none := fun j hj => own_new hD hj
  have hb0 : Below w.heap.size w (w.alloc (.cells #[.pointer (some ⟨J, 0, none⟩)] 43)) := (Below.refl _ _).alloc (Nat.le_refl _) _
  have hrf := jrefusal_any (hJ.kept (Kept.of_below hb0 own))
  have hcn := contains_any A n c l (w.alloc (.cells #[.pointer (some ⟨J, 0, none⟩)] 43)) hl (hr.below hb0) (fun b hb => by have := hs b hb; omega) (by omega)
  have hus := used_le hR
  have hd1 : decide (10000 < (n : Int)) = false := by simp; omega
  obtain ⟨z, hz⟩ : ∃ z, z = (ckE s l).2 := ⟨_, rfl⟩
  obtain ⟨S, hS⟩ : ∃ S, S = (ckE s l).1 := ⟨_, rfl⟩
  obtain ⟨cnt', hcnt⟩ : ∃ x, x = (if (ckE s l).2 = 0 then n else cnt) := ⟨_, rfl⟩
  obtain ⟨kp', hkp⟩ : ∃ x, x = (if (ckE s l).2 = 0 then n else kp) := ⟨_, rfl⟩
  rw [← hcnt, ← hkp, ← hz, ← hS]
  have hcase : (s.used + (catR 1 l).length ≤ s.room ∧ z = 0 ∧ S = ck4 s (catR 1 l) ∧ cnt' = n ∧ kp' = n) ∨ (¬ s.used + (catR 1 l).length ≤ s.room ∧ z = 52 ∧ S = s ∧ cnt' = cnt ∧ kp' = kp) := by
    unfold ckE at hz hS hcnt hkp
    by_cases h : s.used + (catR 1 l).length ≤ s.room
    · rw [if_pos h] at hz hS hcnt hkp
      exact .inl ⟨h, hz, hS, by simpa using hcnt, by simpa using hkp⟩
    · rw [if_neg h] at hz hS hcnt hkp
      exact .inr ⟨h, hz, hS, by simpa using hcnt, by simpa using hkp⟩
  have HC := Lib.hid hcase
  have HUS := Lib.hid hus
  clear hJ hD hl hz hS hcnt hkp hcase hus
  go_enter Tryz.func31, Tryz.ntmps31
  go_wp2_with fail
  refine hrf.mono ?_
  rintro e w1 ⟨rfl, rfl⟩
  clear hrf
  go_wp2_with fail
  refine hcn.mono ?_
  rintro e w2 ⟨rfl, hb2⟩
  have hbw2 := bl_trans hb0 hb2
  have hplt : w.heap.size < w2.heap.size := by have := hb2.size; simp at this; omega
  have hp2 : Blk w2 w.heap.size [.pointer (some ⟨J, 0, none⟩)] 43 := Blk.same (heap_alloc_new w _) (hb2.block _ (by simp))
  have cp := hp2.cell 0 _ rfl
  have cJ := (HJ.out.kept (Kept.of_below hbw2 own)).1.cell 0 _ rfl
  have hlf : Calls Tryz.prog 80 #[.pointer (some ⟨d, 0, none⟩)] w2 (fun e w' => e = .returned (.int .i64 ((s.room : Int) - (s.used : Int))) ∧ w' = w2.drew) := by
    obtain ⟨bn, bk, loc, hA⟩ := HD.out.below hbw2
    exact left_any hA hR.live (by rw [hR.room]; exact hr16) (by have := HUS.out; omega)
  clear hcn
  go_wp2_with fail
  refine hlf.mono ?_
  rintro e w3 ⟨rfl, rfl⟩
  have hbd : Below w2.heap.size w2 w2.drew := (Below.refl _ _).drew
  have hroom : s.room ≤ 16777216 := by rw [hR.room]; exact hr16
  have hup := upTo_any ((s.room : Int) - (s.used : Int)) A n c l w2.drew HL.out ((hr.below hbw2).below hbd) (by omega) hs (by have := HUS.out; omega) (by omega)
  clear hlf
  go_wp2_with fail
  refine hup.mono ?_
  rintro e w4 ⟨v4, q, rfl, hq, hqr, ho4, hb4⟩
  obtain ⟨A4, c4, rfl, _, _, hr4⟩ := ho4.shape
  obtain ⟨b, hb⟩ : ∃ b, b = catR 1 (l.take q) := ⟨_, rfl⟩
  rw [← hb] at hr4 hqr ho4 ⊢
  have hzC : (s.used + b.length ≤ s.room ∧ z = 0 ∧ S = ck4 s b ∧ cnt' = n ∧ kp' = n) ∨ (¬ s.used + b.length ≤ s.room ∧ z = 52 ∧ S = s ∧ cnt' = cnt ∧ kp' = kp) := by
    have hle := end_mono (l := l) hq (Nat.le_refl _)
    rw [end_all] at hle
    unfold endE at hle
    rw [← hb] at hle
    rcases HC.out with ⟨g1, g2, g3, g4, g5⟩ | ⟨g1, g2, g3, g4, g5⟩
    · have hqe : q = l.length := by
        rcases hqr with h | h
        · exact h
        · omega
      have hbe : b = catR 1 l := by rw [hb, hqe, List.take_length]
      exact .inl ⟨by omega, g2, by rw [hbe]; exact g3, g4, g5⟩
    · refine .inr ⟨?_, g2, g3, g4, g5⟩
      rcases hqr with h | h
      · have hbe : b = catR 1 l := by rw [hb, h, List.take_length]
        rw [hbe]; exact g1
      · omega
  have hbn : b.length ≤ 100000 := by
    have hcl : ∀ k, (catR 1 (l.take k)).length ≤ 1020 * k := by
      intro k
      induction k with
      | zero => simp [catR]
      | succ k ih =>
        by_cases hk : k < l.length
        · have := end_more hk
          unfold endE at this
          have := hs l[k] (List.getElem_mem hk)
          omega
        · rw [List.take_of_length_le (by omega)] at ih ⊢
          omega
    have h1 := hcl q
    have h2 := HL.out
    rw [hb]
    omega
  have hb24 := bl_trans hbd hb4
  have hbw4 := bl_trans hbw2 hb24
  have hs4 := hb24.size
  have hp4 : Blk w4 w.heap.size [.pointer (some ⟨J, 0, none⟩)] 43 := hp2.same (hb24.block _ hplt)
  have cp4 := hp4.cell 0 _ rfl
  have cJ4 := (HJ.out.kept (Kept.of_below hbw4 own)).1.cell 0 _ rfl
  have hplt4 : w.heap.size < w4.heap.size := by omega
  have jlt4 : J < w4.heap.size := by omega
  have hfr : 0 < b.length → ∀ p, A4 = some p → own p.block = none := fun h0 p hp => by
    have h1 := ho4.lt p.block (by rw [hp]; rfl)
    have h2 : w2.drew.heap.size = w2.heap.size := rfl
    exact hN _ (by omega)
  have HZC := Lib.hid hzC
  have HR4 := Lib.hid hr4
  have HFR := Lib.hid hfr
  have HBW := Lib.hid hbw4
  have HP4 := Lib.hid hp4
  clear hup hqr hb hzC ho4 hr4 hfr hp2 cp cJ hb2 hbw2 hb24 hb4 hbd hp4 hbw4
  obtain ⟨W5, hW5⟩ : ∃ W5, W5 = w4.alloc (.cells #[.slice A4 b.length c4] 22) := ⟨_, rfl⟩
  have hb45 : Below w4.heap.size w4 W5 := by rw [hW5]; exact bl_alloc (Below.refl _ _) _
  have q0 : W5.cell? ⟨w.heap.size, 0, none⟩ = some (.pointer (some ⟨J, 0, none⟩)) := (hb45.cell hplt4).trans cp4
  have q1 : W5.cell? ⟨J, 0, none⟩ = some (.pointer (some ⟨d, 0, none⟩)) := (hb45.cell jlt4).trans cJ4
  have HW5 := Lib.hid hW5
  have hsz5 : W5.heap.size = w4.heap.size + 1 := by rw [hW5]; simp
  obtain ⟨X, hX⟩ : ∃ X, X = ((W5.alloc (.cells #[.func (.func 81) #[] #[.pointer (some ⟨w.heap.size, 0, none⟩), .pointer (some ⟨w4.heap.size, 0, none⟩)], .func (.func 82) #[] #[.pointer (some ⟨w.heap.size, 0, none⟩)], .func (.func 83) #[] #[.pointer (some ⟨w.heap.size, 0, none⟩)], .func (.func 69) #[.pointer (some ⟨d, 0, none⟩)] #[]] 97)).drew) := ⟨_, rfl⟩
  have hbX : Below w4.heap.size w4 X := by rw [hX, hW5]; exact (bl_alloc (bl_alloc (Below.refl _ _) _) _).drew
  have hbwX := bl_trans HBW.out hbX
  have HX := Lib.hid hX
  have hJX := HJ.out.kept (Kept.of_below hbwX own)
  have hDX := HD.out.below hbwX
  have hpX : VarAt X own w.heap.size (.pointer (some ⟨J, 0, none⟩)) 43 := ⟨HP4.out.same (hbX.block _ hplt4), hN _ (Nat.le_refl _)⟩
  have hqX : VarAt X own w4.heap.size (.slice A4 b.length c4) 22 := ⟨by
    rw [hX, hW5]
    exact alls_at w4 [.cells #[.slice A4 b.length c4] 22, .cells #[.func (.func 81) #[] #[.pointer (some ⟨w.heap.size, 0, none⟩), .pointer (some ⟨w4.heap.size, 0, none⟩)], .func (.func 82) #[] #[.pointer (some ⟨w.heap.size, 0, none⟩)], .func (.func 83) #[] #[.pointer (some ⟨w.heap.size, 0, none⟩)], .func (.func 69) #[.pointer (some ⟨d, 0, none⟩)] #[]] 97] 0 (by simp), hN _ (by omega)⟩
  have hgX : Blk X (w4.heap.size + 1) (chkF w.heap.size w4.heap.size d) 97 := by
    rw [hX, hW5]
    exact alls_at w4 [.cells #[.slice A4 b.length c4] 22, .cells #[.func (.func 81) #[] #[.pointer (some ⟨w.heap.size, 0, none⟩), .pointer (some ⟨w4.heap.size, 0, none⟩)], .func (.func 82) #[] #[.pointer (some ⟨w.heap.size, 0, none⟩)], .func (.func 83) #[] #[.pointer (some ⟨w.heap.size, 0, none⟩)], .func (.func 69) #[.pointer (some ⟨d, 0, none⟩)] #[]] 97] 1 (by simp)
  have hzz : z = 0 ∨ z = 52 := by
    rcases HZC.out with ⟨_, h, _⟩ | ⟨_, h, _⟩
    · exact .inl h
    · exact .inr h
  have htn := turnC_any (cnt := cnt) (kp := kp) _ hgX (hN _ (by omega)) hpX hJX hqX rfl (HR4.out.below hbX) HFR.out hbn hDX hR hk hm hr16 hx z S (by
    rcases HZC.out with ⟨h1, h2, h3, _⟩ | ⟨h1, h2, h3, _⟩
    · exact .inl ⟨h1, h2, h3⟩
    · exact .inr ⟨h1, h2, h3⟩)
  have hdo := doesC_any hJX hzz htn
  have hdo3 : ∀ Y, Y = X → Calls Tryz.prog 76 #[.pointer (some ⟨J, 0, none⟩), .slice (some ⟨w4.heap.size + 1, 0, none⟩) 4 4] Y (fun e w' => e = .returned (.int .i64 (z : Int)) ∧ ∃ own', DiskIn w' own' d S ∧ Kept X w' (jo own J) (jo own' J) ∧ JIn w' own' J d cnt kp false) := fun Y h => by rw [h]; exact hdo
  have HDO := Lib.hid hdo3
  have HJX := Lib.hid hJX
  have HK := Lib.hid (Kept.jo (Kept.of_below hbwX own) J)
  have HPX := Lib.hid hpX
  clear hb45 hdo3 hW5 hX hbX hbwX hJX hDX hpX hqX hgX htn hdo
  have hcc : (z = 0 ∧ cnt' = n ∧ kp' = n) ∨ (z = 52 ∧ cnt' = cnt ∧ kp' = kp) := by
    rcases HZC.out with ⟨_, h2, _, h4, h5⟩ | ⟨_, h2, _, h4, h5⟩
    · exact .inl ⟨h2, h4, h5⟩
    · exact .inr ⟨h2, h4, h5⟩
  clear hzz
  have hd5 : W5.drew.heap.size = W5.heap.size := rfl
  have e0 : W5.drew.cell? ⟨w.heap.size, 0, none⟩ = some (.pointer (some ⟨J, 0, none⟩)) := q0
  have e1 : W5.drew.cell? ⟨J, 0, none⟩ = some (.pointer (some ⟨d, 0, none⟩)) := q1
  go_wp2_with fail
  rw [← HW5.out]
  refine wp_region_held_drew (S := fun w' => w'.cell? ⟨w.heap.size, 0, none⟩ = some (.pointer (some ⟨J, 0, none⟩)) ∧ w'.cell? ⟨J, 0, none⟩ = some (.pointer (some ⟨d, 0, none⟩))) (by kernel_rfl) ⟨e0, e1⟩ (fun hHeld => ?_)
  refine wpAnyH_take (i := 0) (v := ?vz0) rfl (by kernel_rfl) (by kernel_rfl) (by kernel_rfl) (fun _ _ _ h => h) (Or.inl ⟨by rfl, ?yz0⟩) hHeld ?rz0
  case yz0 => (intro wS hSw; obtain ⟨hS1, hS2⟩ := hSw; go_simp; try (with_reducible rfl))
  try simp only [List.getElem_toArray, List.getElem_cons_zero, List.getElem_cons_succ, Act.put, List.setIfInBounds_toArray, List.set_cons_zero, List.set_cons_succ]
  refine wpAnyH_take (i := 1) (v := ?vz1) rfl (by kernel_rfl) (by kernel_rfl) (by kernel_rfl) (fun _ _ _ h => h) (Or.inl ⟨by rfl, ?yz1⟩) hHeld ?rz1
  case yz1 => (intro wS hSw; obtain ⟨hS1, hS2⟩ := hSw; go_simp; try (with_reducible rfl))
  try simp only [List.getElem_toArray, List.getElem_cons_zero, List.getElem_cons_succ, Act.put, List.setIfInBounds_toArray, List.set_cons_zero, List.set_cons_succ]
  refine wpAnyH_take (i := 2) (v := ?vz2) rfl (by kernel_rfl) (by kernel_rfl) (by kernel_rfl) (fun _ _ _ h => h) (Or.inl ⟨by rfl, ?yz2⟩) hHeld ?rz2
  case yz2 => (intro wS hSw; obtain ⟨hS1, hS2⟩ := hSw; go_simp; try (with_reducible rfl))
  try simp only [List.getElem_toArray, List.getElem_cons_zero, List.getElem_cons_succ, Act.put, List.setIfInBounds_toArray, List.set_cons_zero, List.set_cons_succ]
  refine wpAnyH_take (i := 3) (v := ?vz3) rfl (by kernel_rfl) (by kernel_rfl) (by kernel_rfl) (fun _ _ _ h => h) (Or.inl ⟨by rfl, ?yz3⟩) hHeld ?rz3
  case yz3 => (intro wS hSw; obtain ⟨hS1, hS2⟩ := hSw; go_simp; try (with_reducible rfl))
  try simp only [List.getElem_toArray, List.getElem_cons_zero, List.getElem_cons_succ, Act.put, List.setIfInBounds_toArray, List.set_cons_zero, List.set_cons_succ]
  refine wpAnyH_take (i := 4) (v := ?vz4) rfl (by kernel_rfl) (by kernel_rfl) (by kernel_rfl) (fun _ _ _ h => h) (Or.inl ⟨by rfl, ?yz4⟩) hHeld ?rz4
  case yz4 => (intro wS hSw; obtain ⟨hS1, hS2⟩ := hSw; go_simp; try (with_reducible rfl))
  try simp only [List.getElem_toArray, List.getElem_cons_zero, List.getElem_cons_succ, Act.put, List.setIfInBounds_toArray, List.set_cons_zero, List.set_cons_succ]
  refine wpAnyH_take (i := 5) (v := ?vz5) rfl (by kernel_rfl) (by kernel_rfl) (by kernel_rfl) (fun _ _ _ h => h) (Or.inl ⟨by rfl, ?yz5⟩) hHeld ?rz5
  case yz5 => (intro wS hSw; obtain ⟨hS1, hS2⟩ := hSw; go_simp; try (with_reducible rfl))
  try simp only [List.getElem_toArray, List.getElem_cons_zero, List.getElem_cons_succ, Act.put, List.setIfInBounds_toArray, List.set_cons_zero, List.set_cons_succ]
  refine wpAnyH_take (i := 6) (v := ?vz6) rfl (by kernel_rfl) (by kernel_rfl) (by kernel_rfl) (fun _ _ _ h => h) (Or.inl ⟨by rfl, ?yz6⟩) hHeld ?rz6
  case yz6 => (intro wS hSw; obtain ⟨hS1, hS2⟩ := hSw; go_simp; try (with_reducible rfl))
  try simp only [List.getElem_toArray, List.getElem_cons_zero, List.getElem_cons_succ, Act.put, List.setIfInBounds_toArray, List.set_cons_zero, List.set_cons_succ]
  refine wpAnyH_take (i := 7) (v := ?vz7) rfl (by kernel_rfl) (by kernel_rfl) (by kernel_rfl) (fun _ _ _ h => h) (Or.inl ⟨by rfl, ?yz7⟩) hHeld ?rz7
  case yz7 => (intro wS hSw; obtain ⟨hS1, hS2⟩ := hSw; go_simp; try (with_reducible rfl))
  try simp only [List.getElem_toArray, List.getElem_cons_zero, List.getElem_cons_succ, Act.put, List.setIfInBounds_toArray, List.set_cons_zero, List.set_cons_succ]
  refine wpAnyH_take (i := 8) (v := ?vz8) rfl (by kernel_rfl) (by kernel_rfl) (by kernel_rfl) (fun _ _ _ h => h) (Or.inl ⟨by rfl, ?yz8⟩) hHeld ?rz8
  case yz8 => (intro wS hSw; obtain ⟨hS1, hS2⟩ := hSw; go_simp; try (with_reducible rfl))
  try simp only [List.getElem_toArray, List.getElem_cons_zero, List.getElem_cons_succ, Act.put, List.setIfInBounds_toArray, List.set_cons_zero, List.set_cons_succ]
  refine wpAnyH_ready (rs := [9]) (by kernel_rfl) (by simp) (AllReadyH.cons rfl (fun K hK => ?_) AllReadyH.nil)
  go_simp
  rw [← HX.out]
  have x0 := HPX.out.1.cell 0 _ rfl
  have x1 := HJX.out.1.cell 0 _ rfl
  refine hK.out _ _ ⟨x0, x1⟩ (fun hHeld => ?_)
  clear hK K
  try simp only [List.getElem_toArray, List.getElem_cons_zero, List.getElem_cons_succ, Act.put, List.setIfInBounds_toArray, List.set_cons_zero, List.set_cons_succ]
  refine wpAnyH_ready (rs := [10]) (by kernel_rfl) (by simp) (AllReadyH.cons rfl (fun K hK => ?_) AllReadyH.nil)
  go_simp
  go_at_call 76
  refine (HDO.out _ rfl).mono ?_
  rintro e w5 ⟨rfl, own5, hD5, hK5, hJ5⟩
  have h9 := HPX.out.1.same (hK5.block _ HPX.out.1.lt (jo_of HPX.out.2 (by omega)))
  have c9 := h9.cell 0 _ rfl
  have c8 := hJ5.1.cell 0 _ rfl
  have HJ5 := Lib.hid hJ5
  have HD5 := Lib.hid hD5
  have HK5 := Lib.hid hK5
  clear hHeld hJ5 hD5 hK5 h9
  go_wp2_with fail
  refine hK.out _ _ ⟨c9, c8⟩ (fun hHeld => ?_)
  clear hK K
  try simp only [List.getElem_toArray, List.getElem_cons_zero, List.getElem_cons_succ, Act.put, List.setIfInBounds_toArray, List.set_cons_zero, List.set_cons_succ]
  refine wpAnyH_take (i := 11) (v := ?vz11) rfl (by kernel_rfl) (by kernel_rfl) (by kernel_rfl) (fun _ _ _ h => h) (Or.inl ⟨by rfl, ?yz11⟩) hHeld ?rz11
  case yz11 => (intro wS hSw; obtain ⟨hS1, hS2⟩ := hSw; go_simp; try (with_reducible rfl))
  try simp only [List.getElem_toArray, List.getElem_cons_zero, List.getElem_cons_succ, Act.put, List.setIfInBounds_toArray, List.set_cons_zero, List.set_cons_succ]
  refine wpAnyH_done (by kernel_rfl) ?_ _
  have c10 := HJ5.out.1.cell 1 _ rfl
  have c11 := HJ5.out.1.cell 2 _ rfl
  have z10 := HJ5.out.1.free 1
  have z11 := HJ5.out.1.free 2
  clear hHeld x0 x1 e0 e1 q0 q1
  rcases hcc with ⟨rfl, hc1', hc2'⟩ | ⟨rfl, hc1', hc2'⟩
  · go_wp2_with fail
    go_region
    go_wp2_with fail
    go_ret
    have hg1 := grown_set w5 ⟨J, 1, none⟩ (.int .i64 (n : Int))
    have hg2 := grown_set (w5.setCell ⟨J, 1, none⟩ (.int .i64 (n : Int))) ⟨J, 2, none⟩ (.int .i64 (n : Int))
    obtain ⟨bn, bk, loc, hA5⟩ := HD5.out
    have hj2 := HJ5.out.2
    have hA6 := (hA5.grown hg1 fun c e => by cases e; exact hj2).grown hg2 fun c e => by cases e; exact hj2
    have hB6 := (HJ5.out.1.set 1 (.int .i64 (n : Int))).set 2 (.int .i64 (n : Int))
    rw [hc1', hc2']
    exact ⟨rfl, own5, ⟨bn, bk, loc, hA6.drew⟩, (((HK.out.trans HK5.out).set (p := ⟨J, 1, none⟩) (jo_at _ _) _).set (p := ⟨J, 2, none⟩) (jo_at _ _) _).drew, hB6, hj2⟩
  · go_wp2_with fail
    go_ret
    exact ⟨rfl, own5, HD5.out, HK.out.trans HK5.out, HJ5.out⟩
end
end Go.Proofs.YtdgaipdpebinbaaGreat
