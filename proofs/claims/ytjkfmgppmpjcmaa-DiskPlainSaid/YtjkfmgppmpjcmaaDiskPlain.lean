/- As long as the power stays a disk does what plain files do: DiskPlain, of all deeds. No condition. -/
import Derived.Test.YtjkfmgppmpjcmaaDkPl
import Derived.Test.YtjkfmgppmpjcmaaDkPm
import Derived.Deep.CutBlock
set_option linter.unusedVariables false
set_option linter.unusedSimpArgs false
namespace Go.Proofs.Ytjkfmgppmpjcmaa
open Go.RowKit Go.Maps Go.Shelf Go.Sort Go.ChangeShapes Go.WideShapes Go.ChangeAt

theorem Lies.grown {w wr w2 : World} {own : Nat → Option Role} {d : Nat} {s : DS} (h : Lies w wr own d s) {o : Option Nat} (hg : wr.grownBy w2 o) (hb : ∀ b, o = some b → own b = none ∧ w.heap.size ≤ b) : Lies w w2 own d s := by
  obtain ⟨bn, bk, loc, hA⟩ := h.disk
  exact ⟨⟨bn, bk, loc, hA.grown hg fun c e => (hb c e).1⟩, h.far, bl_grown h.below hg fun k e => (hb k e).2⟩
theorem Lies.setOwn {w wr : World} {own : Nat → Option Role} {d : Nat} {s : DS} (h : Lies w wr own d s) {b : Nat} (hb : own b = none) (hw : w.heap.size ≤ b) (k : Nat) (v : Value) : Lies w (wr.setCell ⟨b, k, none⟩ v) own d s :=
  h.grown (grown_set wr ⟨b, k, none⟩ v) fun c e => by cases e; exact ⟨hb, hw⟩
theorem upd_up {α : Type} : @upd α = @upE α := rfl
theorem name_nat (n : Nat) : ((nameE n).toNat : Int) = 97 + (n % 3 : Nat) := by
  unfold nameE
  rw [UInt8.toNat_ofNat']
  omega
theorem name_nm (n : Nat) : [nameE n] = nm (n % 3) := rfl

theorem w64 (z : Int) (h1 : -9223372036854775808 ≤ z) (h2 : z ≤ 9223372036854775807) : wrap64 z = z := by
  have e : IntKind.i64.wrap z = wrap64 z := by rw [IntKind.wrap_i64]; unfold wrap64; rfl
  rw [← e]
  exact wrap_in z h1 h2
theorem byte_at (x : UInt8) (g : Nat) (hx : (x.toNat : Int) = 97 + g) (hg : g < 3) (h : 0 < (⟨#[x]⟩ : ByteArray).size) : wrap64 (wrap64 (((⟨#[x]⟩ : ByteArray)[0]'h).toNat : Int) - 97) = (g : Int) := by
  show wrap64 (wrap64 (x.toNat : Int) - 97) = _
  rw [w64 (x.toNat : Int) (by omega) (by omega), w64 ((x.toNat : Int) - 97) (by omega) (by omega)]
  omega
theorem name_of (W : World) (x : Int) (u : UInt8) (hx : x = (u.toNat : Int)) : (convert 28 9 (.slice (some ⟨W.heap.size, 0, none⟩) 1 1)).run Try.prog (W.alloc (.cells #[.int .u8 x] 5)) = .ok (.string ⟨#[u]⟩) (W.alloc (.cells #[.int .u8 x] 5)) :=
  string_of _ _ 1 1 [u] rfl (by
    intro _
    refine ⟨_, rfl, fun j hj => ?_⟩
    have hj0 : j = 0 := by simp at hj; omega
    subst hj0
    rw [hx]
    simp [Addr.add, bv])
set_option maxHeartbeats 8000000 in
set_option maxRecDepth 40000 in
theorem plain_walk (w : World) (A : Option Addr) (n c : Nat) (D : List MD) (hl : D.length = n) (hnc : n ≤ c) (hr : RdD w A D) (hD : ∀ x ∈ D, x.Ok w) (hc : c ≤ 140737488351232) :
    Calls Try.prog 6 #[.slice A n c] w (Yes w) := by
  have hnew : ∀ w, _ := fun w => new_any w 1048576 (by omega)
  have HD := Lib.hid hD
  have HL := Lib.hid hl
  clear hD hl
  go_enter Try.func6, Try.ntmps6
  go_wp2_with fail
  refine (hnew w).mono ?_
  rintro e w1 ⟨own0, d, rfl, hd0, hf0, hb0⟩
  clear hnew
  have hL0 : Lies w w1 own0 d (dsE (newE 1048576) ((D.take 0).map ddN)) := ⟨hd0, hf0, hb0⟩
  clear hd0 hf0 hb0
  go_wp2_with fail
  have hFw : w.heap.size ≤ w1.heap.size := hL0.below.size
  have hP0 : Pl ((w1.alloc (.cells #[.slice none 0 0, .slice none 0 0, .slice none 0 0] 50)).alloc (.cells #[.bool false, .bool false, .bool false] 51)) own0 w1.heap.size (w1.heap.size + 1) w.heap.size (fun _ => .slice none 0 0) (fun _ => []) (fun _ => false) := by
    refine ⟨Blk.same (heap_alloc_new w1 _) (Below.heap_alloc _ _ _ (by simp)), ?_, own_new hL0.disk (Nat.le_refl _), own_new hL0.disk (by omega), by omega, fun k hk => ⟨Own.nil _ _, fun c hc => by simp [Value.ownBlock] at hc⟩, fun j k c _ _ _ hc => by simp [Value.ownBlock] at hc⟩
    have := heap_alloc_new (w1.alloc (.cells #[.slice none 0 0, .slice none 0 0, .slice none 0 0] 50)) (.cells #[.bool false, .bool false, .bool false] 51)
    simp only [World.alloc, Array.size_push] at this
    exact this
  have hL1 := (hL0.on ((Below.refl _ w1).alloc (Nat.le_refl _) (.cells #[.slice none 0 0, .slice none 0 0, .slice none 0 0] 50))).on ((Below.refl _ _).alloc (Nat.le_refl _) (.cells #[.bool false, .bool false, .bool false] 51))
  clear hL0
  go_loopw [7] (fun i wr => ∃ j : Nat, j ≤ 80 ∧ i = .int .i64 (j : Int) ∧ ∃ own vs fs is, Lies w wr own d (dsE (newE 1048576) ((D.take j).map ddN)) ∧ Rel (dsE (newE 1048576) ((D.take j).map ddN)) fs is ∧ Pl wr own w1.heap.size (w1.heap.size + 1) w.heap.size vs fs is ∧ ∀ k, k < 3 → (fs k).length ≤ j * 30) (fun i _ => 80 - (intOf i).toNat)
  case atStart => exact ⟨0, by omega, rfl, own0, _, _, _, hL1, rel_new _, hP0, fun k hk => by simp⟩
  case round =>
    clear hL1 hP0
    obtain ⟨j, hj, rfl, own, vs, fs, is, hLj, hRel, hPl, hfl⟩ := hrel
    by_cases hgo : j < n ∧ j < 80
    · obtain ⟨hlt, h60⟩ := hgo
      have hjl : j < D.length := by have := HL.out; omega
      have hx := HD.out _ (List.getElem_mem hjl)
      obtain ⟨ad, rfl, q0, q1, q2, q3, q4, q5, q6⟩ := (hr.below hLj.below).load hjl
      have hne := near_md D[j] wr hx
      have hrun := run_near 1048576 D j
      have hdo := Lib.hid (fun w' own' (h : Lies w w' own' d (dsE (newE 1048576) ((D.take j).map ddN))) => does_near h hrun (by omega) (by omega) (by omega) D[j] hx)
      have hnx := Lib.hid (near_next 1048576 hjl)
      have hrdb : Rd w (nearM D[j]).A (nearM D[j]).b := hx.rd.take 30
      have hlb := near_len hx
      have hbl30 := (near_small D[j]).2
      have hused := used_le hrun
      obtain ⟨ga, hga⟩ : ∃ ga, ga = D[j].G.size % 3 := ⟨_, rfl⟩
      obtain ⟨gb, hgb⟩ : ∃ gb, gb = D[j].V.size % 3 := ⟨_, rfl⟩
      have ha3 : ga < 3 := by omega
      have hb3 : gb < 3 := by omega
      have hnG : (nearM D[j]).dd.name = nm ga := by rw [hga]; rfl
      have hnV : (nearM D[j]).dd.to = nm gb := by rw [hgb]; rfl
      have hG : (nearM D[j]).G = ⟨#[nameE D[j].G.size]⟩ := rfl
      have hV : (nearM D[j]).V = ⟨#[nameE D[j].V.size]⟩ := rfl
      have cG := name_nat D[j].G.size
      have cV := name_nat D[j].V.size
      rw [← hga] at cG
      rw [← hgb] at cV
      have hk0 := (near_may D[j]).k1
      have hk5 := (near_may D[j]).k2
      have hkd : (nearM D[j]).dd = ⟨(nearM D[j]).k.toNat, nm ga, nm gb, (nearM D[j]).b⟩ := by rw [← hnG, ← hnV]; rfl
      unfold MD.val deedV at hne
      go_wp2_with fail
      refine hne.mono ?_
      rintro e w2 ⟨rfl, hb2⟩
      have hL2 := hLj.on hb2
      have hP2 := hPl.kept (Kept.of_below hb2 own)
      clear q0 q1 q2 q3 q4 q5 q6 hne hnG hnV hga hgb
      generalize nearM D[j] = M at *
      obtain ⟨Mk, MN, MB, MG, MV, MA, Mm, Mc, MA2, Mm2, Mc2, Mb⟩ := M
      simp only at hG hV hk0 hk5 hrdb hlb hbl30
      subst hG hV
      generalize nameE D[j].G.size = xG at *
      generalize nameE D[j].V.size = xV at *
      go_wp2_with fail
      obtain ⟨W3, hW3, B3, L3, P3⟩ : ∃ W3, W3 = w2.alloc (.cells #[.int .i64 Mk, .string ⟨#[xG]⟩, .string ⟨#[xV]⟩, .slice MA Mm Mc, .int .i64 MN, .int .i64 MB, .slice MA2 Mm2 Mc2] 30) ∧ Blk W3 w2.heap.size [.int .i64 Mk, .string ⟨#[xG]⟩, .string ⟨#[xV]⟩, .slice MA Mm Mc, .int .i64 MN, .int .i64 MB, .slice MA2 Mm2 Mc2] 30 ∧ Lies w W3 own d (dsE (newE 1048576) ((D.take j).map ddN)) ∧ Pl W3 own w1.heap.size (w1.heap.size + 1) w.heap.size vs fs is :=
        ⟨_, rfl, heap_alloc_new w2 _, hL2.on ((Below.refl _ _).alloc (Nat.le_refl _) _), hP2.kept (Kept.of_below ((Below.refl _ _).alloc (Nat.le_refl _) _) own)⟩
      rw [← hW3]
      have hxo : own w2.heap.size = none := own_new hL2.disk (Nat.le_refl _)
      have hx1 : w1.heap.size < w2.heap.size := hP2.bf.lt
      have hx2 : w1.heap.size + 1 < w2.heap.size := hP2.bi.lt
      clear hW3 hL2 hP2
      have x1 := B3.cell 1 _ rfl
      have x2 := B3.cell 2 _ rfl
      have eG : (xG.toNat : Int) - 97 = (ga : Int) := by omega
      have eV : (xV.toNat : Int) - 97 = (gb : Int) := by omega
      have wG := Lib.hid (byte_at xG ga cG ha3)
      have wV := Lib.hid (byte_at xV gb cV hb3)
      clear eG eV cG cV
      go_region
      simp only [wG.out, wV.out]
      have B3' : Blk W3.drew w2.heap.size [.int .i64 Mk, .string ⟨#[xG]⟩, .string ⟨#[xV]⟩, .slice MA Mm Mc, .int .i64 MN, .int .i64 MB, .slice MA2 Mm2 Mc2] 30 := B3
      have L3' := L3.on (Below.refl _ _).drew
      have P3' := P3.kept (Kept.refl W3 own).drew
      have x0 := B3'.cell 0 _ rfl
      have x1 := B3'.cell 1 _ rfl
      have x2 := B3'.cell 2 _ rfl
      have x3 := B3'.cell 3 _ rfl
      have x4 := B3'.cell 4 _ rfl
      have x5 := B3'.cell 5 _ rfl
      have x6 := B3'.cell 6 _ rfl
      go_wp2_with fail
      refine (hdo.out _ _ L3').mono ?_
      intro e w4 hgot
      obtain ⟨rfl, own4, hL4, hK4⟩ := lies_got L3' hgot
      clear hgot hdo x0 x1 x2 x3 x4 x5 x6
      have P4 := P3'.kept hK4
      have B4 := B3'.same (hK4.block _ B3'.lt hxo)
      have hxo4 := free_kept hK4 B3'.lt hxo
      have hRun5 := run_near 1048576 D (j + 1)
      have hnx' := hnx.out
      simp only [hkd] at hL4 hnx' ⊢
      rw [← hnx'] at hRun5
      have hms : Mb.length ≤ 30 := by rw [hkd] at hbl30; exact hbl30
      have hMm : Mm ≤ 30 := by omega
      have hr4 : Rd w4 MA Mb := hrdb.below hL4.below
      have hall : ∀ k, k < 3 → (fs k).length ≤ 2400 := fun k hk => by have := hfl k hk; omega
      clear hnx hkd hbl30 hPl hLj B3' L3' P3' hK4 B3 hxo P3 L3 hb2 hrdb
      generalize dsE (newE 1048576) ((D.take j).map ddN) = s at *
      obtain ⟨R, hR⟩ : ∃ R, R = dE s ⟨Mk.toNat, nm ga, nm gb, Mb⟩ := ⟨_, rfl⟩
      obtain ⟨z, hz⟩ : ∃ z : Int, z = (R.2 : Int) := ⟨_, rfl⟩
      simp only [← hR, ← hz] at hL4 hnx' hRun5 ⊢
      have HZ := Lib.hid hz
      have HR := Lib.hid hR
      have HX := Lib.hid hnx'
      clear hz hR hnx'
      have hw1 : w.heap.size ≤ w1.heap.size := hFw
      have hs4 := hL4.below.size
      have x0 := B4.cell 0 _ rfl
      have fF := P4.nf
      have fI := P4.ni
      have hwI : w.heap.size ≤ w1.heap.size + 1 := by omega
      go_upto_block 2 with fail
      go_cut [12] (fun t12 wx => ∃ vs' fs' is', t12 = .int .i64 z ∧ Lies w wx own4 d R.1 ∧ Rel R.1 fs' is' ∧ Pl wx own4 w1.heap.size (w1.heap.size + 1) w.heap.size vs' fs' is' ∧ ∀ k, k < 3 → (fs' k).length ≤ (j + 1) * 30)
      case first =>
        have hkk : Mk = 0 ∨ Mk = 1 ∨ Mk = 2 ∨ Mk = 3 ∨ Mk = 4 := by omega
        rcases hkk with rfl | rfl | rfl | rfl | rfl
        · have hq : R = dE s ⟨0, nm ga, nm gb, Mb⟩ := HR.out
          obtain ⟨f1, f2⟩ := rel_0 hrun hRel ha3 (nm gb) Mb (by omega) hused
          rw [← hq] at f1 f2
          have hz0 := Lib.hid (show z = 0 by rw [HZ.out, f1]; rfl)
          clear hq f1
          have P4d := P4.kept (Kept.refl w4 own4).drew
          have y0 := P4.cellF ha3
          have x3 := B4.cell 3 _ rfl
          have hnF : some w1.heap.size ≠ (vs ga).ownBlock := fun e => ((P4.val ga ha3).2 _ e.symm).2.1 rfl
          have hnew : own4 w4.heap.size = none := own_new hL4.disk (Nat.le_refl _)
          have gaI : (ga : Int) < 3 := by omega
          go_wp2_with fail
          go_region_law ((refine step_append_bytes _ (by rfl) _ _ (by rfl) w.heap.size _ (fs ga) (by rfl) (P4d.val ga ha3).1 _ _ _ Mb (by rfl) hlb hr4 (by have := hall ga ha3; omega) hs4 ?_; intro v3 w3 ho3 hg3 hb3; have P5 := P4d.addF ha3 ho3 hg3 hb3 hnew; obtain ⟨A3, n3, c3, rfl, _, _, _, _⟩ := ho3.form; have z0 := (P4d.bf.same (hg3.block _ P4d.bf.lt hnF)).free ga; have z1 := P5.bi.free ga; have y4 := (P4d.bf.same (hg3.block _ P4d.bf.lt hnF)).cell ga _ (at_list vs ha3); have y5 := P5.cellI ha3))
          all_goals
            go_wp2_with fail
            go_meet
            have hgo3 : ∀ c, (vs ga).ownBlock = some c → own4 c = none ∧ w.heap.size ≤ c := fun c hc => ⟨((P4d.val ga ha3).2 c hc).1, ((P4d.val ga ha3).1.lt c hc).1⟩
            have L4d : Lies w w4.drew own4 d R.1 := hL4.on (Below.refl _ _).drew
            exact ⟨upd vs ga (.slice A3 n3 c3), upE fs ga (fs ga ++ Mb), upE is ga true, by rw [hz0.out], ((L4d.grown hg3 hgo3).setOwn fF hw1 ga (.slice A3 n3 c3)).setOwn fI hwI ga (.bool true), f2, P5.setI ha3 true, fun k hk => by
              unfold upE
              split
              · have := hfl ga ha3; simp; omega
              · have := hfl k hk; omega⟩
        · have hq : R = dE s ⟨1, nm ga, nm gb, Mb⟩ := HR.out
          obtain ⟨f1, f2⟩ := rel_1 hrun.inv hRel ha3 (nm gb) Mb
          rw [← hq] at f1 f2
          have y1 := P4.cellI ha3
          cases hi : is ga with
          | false =>
            rw [hi] at y1
            have hz0 := Lib.hid (show z = 50 by rw [HZ.out, f1, hi]; rfl)
            clear f1 hi hq
            go_wp2_with fail
            go_meet
            exact ⟨vs, fs, is, by rw [hz0.out], hL4, f2, P4, fun k hk => by have := hfl k hk; omega⟩
          | true =>
            rw [hi] at y1
            have hz0 := Lib.hid (show z = 0 by rw [HZ.out, f1, hi]; rfl)
            clear f1 hi hq
            go_wp2_with fail
            go_meet
            exact ⟨vs, fs, is, by rw [hz0.out], hL4, f2, P4, fun k hk => by have := hfl k hk; omega⟩
        · have hq : R = dE s ⟨2, nm ga, nm gb, Mb⟩ := HR.out
          obtain ⟨f1, f2, f3⟩ := rel_2 hrun.inv hRel ha3 hb3 Mb
          rw [← hq] at f1 f2 f3
          have y1 := P4.cellI ha3
          cases hi : is ga with
          | false =>
            rw [hi] at y1
            have hz0 := Lib.hid (show z = 50 by rw [HZ.out, f1, hi]; rfl)
            replace f3 := f3 (.inl hi)
            clear f1 f2 hi hq
            go_wp2_with fail
            go_meet
            exact ⟨vs, fs, is, by rw [hz0.out], hL4, f3, P4, fun k hk => by have := hfl k hk; omega⟩
          | true =>
            rw [hi] at y1
            have hz0 := Lib.hid (show z = 0 by rw [HZ.out, f1, hi]; rfl)
            by_cases hab : ga = gb
            · replace f3 := f3 (.inr hab)
              subst hab
              have hbne : ((ga : Int) != (ga : Int)) = false := by simp
              clear f1 f2 hi hq
              go_wp2_with fail
              go_meet
              exact ⟨vs, fs, is, by rw [hz0.out], hL4, f3, P4, fun k hk => by have := hfl k hk; omega⟩
            · have hbne : ((ga : Int) != (gb : Int)) = true := by simp; omega
              replace f2 := f2 hi hab
              obtain ⟨Aa, na, ca, hva, _⟩ := (P4.val ga ha3).1.form
              obtain ⟨z2, z3, z4, ⟨c2, y2⟩, ⟨c3, y3⟩, ⟨c4, y4⟩, P5⟩ := P4.move4 ha3 hb3 hab hva
              have y5 := P4.cellF hb3
              have y0 := P4.cellF ha3
              rw [hva] at y0
              have z0 := P4.bf.free gb
              have hab2 : ga ≠ gb := hab
              have hab3 : ¬ ((ga : Int) = (gb : Int)) := by omega
              have hlen : ∀ k, k < 3 → (upE (upE fs gb (fs ga)) ga [] k).length ≤ (j + 1) * 30 := fun k hk => by
                unfold upE
                split
                · simp
                · split
                  · have := hfl ga ha3; omega
                  · have := hfl k hk; omega
              have L5 := Lib.hid ((((hL4.setOwn fF hw1 gb (.slice Aa na ca)).setOwn fI hwI gb (.bool true)).setOwn fF hw1 ga (.slice none 0 0)).setOwn fI hwI ga (.bool false))
              have P5' := Lib.hid P5
              clear f1 f3 hi hq hab P5 hva hfl hall
              go_wp2_with fail
              go_meet
              exact ⟨upd (upd vs gb (vs ga)) ga (.slice none 0 0), upE (upE fs gb (fs ga)) ga [], upE (upE is gb true) ga false, by rw [hz0.out], L5.out, f2, P5'.out, hlen⟩
        · have hq : R = dE s ⟨3, nm ga, nm gb, Mb⟩ := HR.out
          obtain ⟨f1, f2⟩ := rel_3 hrun.inv hRel ha3 (nm gb) Mb
          rw [← hq] at f1 f2
          have y1 := P4.cellI ha3
          have z0 := P4.bf.free ga
          have z1 := (P4.nilF ha3).bi.free ga
          have y0 := P4.cellF ha3
          have y2 := (P4.nilF ha3).cellI ha3
          have hlen : ∀ k, k < 3 → (upE fs ga [] k).length ≤ (j + 1) * 30 := fun k hk => by
            unfold upE
            split
            · simp
            · have := hfl k hk; omega
          have L5 := Lib.hid ((hL4.setOwn fF hw1 ga (.slice none 0 0)).setOwn fI hwI ga (.bool false))
          have P5 := Lib.hid ((P4.nilF ha3).setI ha3 false)
          cases hi : is ga with
          | false =>
            rw [hi] at y1
            have hz0 := Lib.hid (show z = 50 by rw [HZ.out, f1, hi]; rfl)
            clear f1 hi hq
            go_wp2_with fail
            go_meet
            exact ⟨upd vs ga (.slice none 0 0), upE fs ga [], upE is ga false, by rw [hz0.out], L5.out, f2, P5.out, hlen⟩
          | true =>
            rw [hi] at y1
            have hz0 := Lib.hid (show z = 0 by rw [HZ.out, f1, hi]; rfl)
            clear f1 hi hq
            go_wp2_with fail
            go_meet
            exact ⟨upd vs ga (.slice none 0 0), upE fs ga [], upE is ga false, by rw [hz0.out], L5.out, f2, P5.out, hlen⟩
        · have hq : R = dE s ⟨4, nm ga, nm gb, Mb⟩ := HR.out
          obtain ⟨f1, f2⟩ := rel_4 hRel (nm ga) (nm gb) Mb
          rw [← hq] at f1 f2
          have hz0 := Lib.hid (show z = 0 by rw [HZ.out, f1]; rfl)
          clear f1 hq
          go_wp2_with fail
          go_meet
          exact ⟨vs, fs, is, by rw [hz0.out], hL4, f2, P4, fun k hk => by have := hfl k hk; omega⟩
      case rest =>
        obtain ⟨vs5, fs5, is5, rfl, L5, R5, P5, F5⟩ := hcut
        have hok5 := hRun5.inv.now
        have hlive5 := hRun5.live
        have hfit5 : Fit R.1.files := by
          have := hRun5.bnd.data
          unfold Fit
          omega
        have hzz : (z != z) = false := by simp
        clear hRun5 hRel hfl hlb hL4 P4 B4 hr4 hall x0 hrun hused
        go_wp2_with fail
        go_loopw [13] (fun i wx => ∃ k : Nat, k ≤ 3 ∧ i = .int .i64 (k : Int) ∧ Below wc.heap.size wc wx) (fun i _ => 3 - (intOf i).toNat)
        case atStart => exact ⟨0, by omega, rfl, Below.refl _ _⟩
        case round =>
          obtain ⟨k, hk, rfl, hblx⟩ := hrel
          have Lx := L5.on hblx
          have hkk : k = 0 ∨ k = 1 ∨ k = 2 ∨ k = 3 := by omega
          rcases hkk with rfl | rfl | rfl | rfl
          · have hcv := fun W : World => name_of W 97 97 rfl
            cases hi : is5 0 with
            | false =>
              have ho : rdE R.1 (nm 0) = none := by rw [(R5 0 (by omega)).1, hi]; rfl
              have hfk : fs5 0 = [] := (R5 0 (by omega)).2 hi
              have hrdc := Lib.hid (lies_read (Lx.on ((Below.refl _ _).alloc (Nat.le_refl _) (.cells #[.int .u8 97] 5))) hok5 hfit5 hlive5 ⟨#[97]⟩ (by unfold maxLen; decide) none ho)
              have HFK := Lib.hid hfk
              have HI := Lib.hid hi
              clear ho hfk hi
              go_wp2_with fail
              refine hrdc.out.mono ?_
              rintro e w6 ⟨v6, rfl, hov6, hb6⟩
              obtain ⟨A6, n6, c6, rfl, hl6, hnc6, hcm6, hr6⟩ := hov6.form
              have hbk6 := bl_trans (bl_alloc hblx (.cells #[.int .u8 97] 5)) hb6
              have P6 := P5.kept (Kept.of_below hbk6 own4)
              have yI6 := P6.cellI (a := 0) (by omega)
              have yF6 := P6.cellF (a := 0) (by omega)
              obtain ⟨Ab, nb, cb, hvb, hlb, hncb, hcmb, hrb⟩ := (P6.val 0 (by omega)).1.form
              rw [HI.out] at yI6
              rw [hvb] at yF6
              have heq := eq_any A6 Ab n6 c6 nb cb _ _ w6 hl6.out hlb.out hr6 hrb (by omega) (by omega)
              rw [decide_eq_true (by first | rfl | (rw [HFK.out]; rfl) | rw [HFK.out])] at heq
              clear hov6 hrdc
              go_wp2_with fail
              refine heq.mono ?_
              rintro e w7 ⟨rfl, hb7⟩
              go_wp2_with fail
              exact ⟨⟨1, by omega, by go_num, bl_trans hbk6 hb7⟩, by simp [intOf]⟩
            | true =>
              have ho : rdE R.1 (nm 0) = (some (fs5 0)) := by rw [(R5 0 (by omega)).1, hi]; rfl
              have hfk : fs5 0 = fs5 0 := rfl
              have hrdc := Lib.hid (lies_read (Lx.on ((Below.refl _ _).alloc (Nat.le_refl _) (.cells #[.int .u8 97] 5))) hok5 hfit5 hlive5 ⟨#[97]⟩ (by unfold maxLen; decide) (some (fs5 0)) ho)
              have HFK := Lib.hid hfk
              have HI := Lib.hid hi
              clear ho hfk hi
              go_wp2_with fail
              refine hrdc.out.mono ?_
              rintro e w6 ⟨v6, rfl, hov6, hb6⟩
              obtain ⟨A6, n6, c6, rfl, hl6, hnc6, hcm6, hr6⟩ := hov6.form
              have hbk6 := bl_trans (bl_alloc hblx (.cells #[.int .u8 97] 5)) hb6
              have P6 := P5.kept (Kept.of_below hbk6 own4)
              have yI6 := P6.cellI (a := 0) (by omega)
              have yF6 := P6.cellF (a := 0) (by omega)
              obtain ⟨Ab, nb, cb, hvb, hlb, hncb, hcmb, hrb⟩ := (P6.val 0 (by omega)).1.form
              rw [HI.out] at yI6
              rw [hvb] at yF6
              have heq := eq_any A6 Ab n6 c6 nb cb _ _ w6 hl6.out hlb.out hr6 hrb (by omega) (by omega)
              rw [decide_eq_true (by first | rfl | (rw [HFK.out]; rfl) | rw [HFK.out])] at heq
              clear hov6 hrdc
              go_wp2_with fail
              refine heq.mono ?_
              rintro e w7 ⟨rfl, hb7⟩
              go_wp2_with fail
              exact ⟨⟨1, by omega, by go_num, bl_trans hbk6 hb7⟩, by simp [intOf]⟩
          · have hcv := fun W : World => name_of W 98 98 rfl
            cases hi : is5 1 with
            | false =>
              have ho : rdE R.1 (nm 1) = none := by rw [(R5 1 (by omega)).1, hi]; rfl
              have hfk : fs5 1 = [] := (R5 1 (by omega)).2 hi
              have hrdc := Lib.hid (lies_read (Lx.on ((Below.refl _ _).alloc (Nat.le_refl _) (.cells #[.int .u8 98] 5))) hok5 hfit5 hlive5 ⟨#[98]⟩ (by unfold maxLen; decide) none ho)
              have HFK := Lib.hid hfk
              have HI := Lib.hid hi
              clear ho hfk hi
              go_wp2_with fail
              refine hrdc.out.mono ?_
              rintro e w6 ⟨v6, rfl, hov6, hb6⟩
              obtain ⟨A6, n6, c6, rfl, hl6, hnc6, hcm6, hr6⟩ := hov6.form
              have hbk6 := bl_trans (bl_alloc hblx (.cells #[.int .u8 98] 5)) hb6
              have P6 := P5.kept (Kept.of_below hbk6 own4)
              have yI6 := P6.cellI (a := 1) (by omega)
              have yF6 := P6.cellF (a := 1) (by omega)
              obtain ⟨Ab, nb, cb, hvb, hlb, hncb, hcmb, hrb⟩ := (P6.val 1 (by omega)).1.form
              rw [HI.out] at yI6
              rw [hvb] at yF6
              have heq := eq_any A6 Ab n6 c6 nb cb _ _ w6 hl6.out hlb.out hr6 hrb (by omega) (by omega)
              rw [decide_eq_true (by first | rfl | (rw [HFK.out]; rfl) | rw [HFK.out])] at heq
              clear hov6 hrdc
              go_wp2_with fail
              refine heq.mono ?_
              rintro e w7 ⟨rfl, hb7⟩
              go_wp2_with fail
              exact ⟨⟨2, by omega, by go_num, bl_trans hbk6 hb7⟩, by simp [intOf]⟩
            | true =>
              have ho : rdE R.1 (nm 1) = (some (fs5 1)) := by rw [(R5 1 (by omega)).1, hi]; rfl
              have hfk : fs5 1 = fs5 1 := rfl
              have hrdc := Lib.hid (lies_read (Lx.on ((Below.refl _ _).alloc (Nat.le_refl _) (.cells #[.int .u8 98] 5))) hok5 hfit5 hlive5 ⟨#[98]⟩ (by unfold maxLen; decide) (some (fs5 1)) ho)
              have HFK := Lib.hid hfk
              have HI := Lib.hid hi
              clear ho hfk hi
              go_wp2_with fail
              refine hrdc.out.mono ?_
              rintro e w6 ⟨v6, rfl, hov6, hb6⟩
              obtain ⟨A6, n6, c6, rfl, hl6, hnc6, hcm6, hr6⟩ := hov6.form
              have hbk6 := bl_trans (bl_alloc hblx (.cells #[.int .u8 98] 5)) hb6
              have P6 := P5.kept (Kept.of_below hbk6 own4)
              have yI6 := P6.cellI (a := 1) (by omega)
              have yF6 := P6.cellF (a := 1) (by omega)
              obtain ⟨Ab, nb, cb, hvb, hlb, hncb, hcmb, hrb⟩ := (P6.val 1 (by omega)).1.form
              rw [HI.out] at yI6
              rw [hvb] at yF6
              have heq := eq_any A6 Ab n6 c6 nb cb _ _ w6 hl6.out hlb.out hr6 hrb (by omega) (by omega)
              rw [decide_eq_true (by first | rfl | (rw [HFK.out]; rfl) | rw [HFK.out])] at heq
              clear hov6 hrdc
              go_wp2_with fail
              refine heq.mono ?_
              rintro e w7 ⟨rfl, hb7⟩
              go_wp2_with fail
              exact ⟨⟨2, by omega, by go_num, bl_trans hbk6 hb7⟩, by simp [intOf]⟩
          · have hcv := fun W : World => name_of W 99 99 rfl
            cases hi : is5 2 with
            | false =>
              have ho : rdE R.1 (nm 2) = none := by rw [(R5 2 (by omega)).1, hi]; rfl
              have hfk : fs5 2 = [] := (R5 2 (by omega)).2 hi
              have hrdc := Lib.hid (lies_read (Lx.on ((Below.refl _ _).alloc (Nat.le_refl _) (.cells #[.int .u8 99] 5))) hok5 hfit5 hlive5 ⟨#[99]⟩ (by unfold maxLen; decide) none ho)
              have HFK := Lib.hid hfk
              have HI := Lib.hid hi
              clear ho hfk hi
              go_wp2_with fail
              refine hrdc.out.mono ?_
              rintro e w6 ⟨v6, rfl, hov6, hb6⟩
              obtain ⟨A6, n6, c6, rfl, hl6, hnc6, hcm6, hr6⟩ := hov6.form
              have hbk6 := bl_trans (bl_alloc hblx (.cells #[.int .u8 99] 5)) hb6
              have P6 := P5.kept (Kept.of_below hbk6 own4)
              have yI6 := P6.cellI (a := 2) (by omega)
              have yF6 := P6.cellF (a := 2) (by omega)
              obtain ⟨Ab, nb, cb, hvb, hlb, hncb, hcmb, hrb⟩ := (P6.val 2 (by omega)).1.form
              rw [HI.out] at yI6
              rw [hvb] at yF6
              have heq := eq_any A6 Ab n6 c6 nb cb _ _ w6 hl6.out hlb.out hr6 hrb (by omega) (by omega)
              rw [decide_eq_true (by first | rfl | (rw [HFK.out]; rfl) | rw [HFK.out])] at heq
              clear hov6 hrdc
              go_wp2_with fail
              refine heq.mono ?_
              rintro e w7 ⟨rfl, hb7⟩
              go_wp2_with fail
              exact ⟨⟨3, by omega, by go_num, bl_trans hbk6 hb7⟩, by simp [intOf]⟩
            | true =>
              have ho : rdE R.1 (nm 2) = (some (fs5 2)) := by rw [(R5 2 (by omega)).1, hi]; rfl
              have hfk : fs5 2 = fs5 2 := rfl
              have hrdc := Lib.hid (lies_read (Lx.on ((Below.refl _ _).alloc (Nat.le_refl _) (.cells #[.int .u8 99] 5))) hok5 hfit5 hlive5 ⟨#[99]⟩ (by unfold maxLen; decide) (some (fs5 2)) ho)
              have HFK := Lib.hid hfk
              have HI := Lib.hid hi
              clear ho hfk hi
              go_wp2_with fail
              refine hrdc.out.mono ?_
              rintro e w6 ⟨v6, rfl, hov6, hb6⟩
              obtain ⟨A6, n6, c6, rfl, hl6, hnc6, hcm6, hr6⟩ := hov6.form
              have hbk6 := bl_trans (bl_alloc hblx (.cells #[.int .u8 99] 5)) hb6
              have P6 := P5.kept (Kept.of_below hbk6 own4)
              have yI6 := P6.cellI (a := 2) (by omega)
              have yF6 := P6.cellF (a := 2) (by omega)
              obtain ⟨Ab, nb, cb, hvb, hlb, hncb, hcmb, hrb⟩ := (P6.val 2 (by omega)).1.form
              rw [HI.out] at yI6
              rw [hvb] at yF6
              have heq := eq_any A6 Ab n6 c6 nb cb _ _ w6 hl6.out hlb.out hr6 hrb (by omega) (by omega)
              rw [decide_eq_true (by first | rfl | (rw [HFK.out]; rfl) | rw [HFK.out])] at heq
              clear hov6 hrdc
              go_wp2_with fail
              refine heq.mono ?_
              rintro e w7 ⟨rfl, hb7⟩
              go_wp2_with fail
              exact ⟨⟨3, by omega, by go_num, bl_trans hbk6 hb7⟩, by simp [intOf]⟩
          · have L9 := Lx
            have R9 := R5
            rw [HX.out] at L9 R9
            have P9 := P5.kept (Kept.of_below hblx own4)
            have HL9 := Lib.hid L9
            have HR9 := Lib.hid R9
            have HP9 := Lib.hid P9
            clear L9 R9 P9 Lx L5 R5 P5
            go_wp2_with fail
            exact ⟨⟨j + 1, by omega, by go_num, own4, vs5, fs5, is5, HL9.out, HR9.out, HP9.out, F5⟩, by simp [intOf]; omega⟩
    · have hgo2 : (¬ j < n) ∨ (j < n ∧ ¬ j < 80) := by omega
      clear hgo
      rcases hgo2 with h | ⟨h, h'⟩
      all_goals
        go_wp2_with fail
        refine (awake_any _).mono ?_
        rintro e w12 ⟨rfl, hb12⟩
        go_wp2_with fail
        go_ret
        exact ⟨rfl, bl_trans hLj.below hb12⟩
set_option maxRecDepth 100000 in
theorem DiskPlain_holds : Rows.DiskPlainSaid :=
  OpenClaim.holds_of_wide 6 Try.f6 rfl rfl rfl rfl rfl rfl rfl ⟨rfl, rfl, rfl, rfl, rfl⟩ rfl rfl rfl rfl rfl (by kernel_rfl) Try.func6 (by kernel_rfl)
    (of_decide_eq_true (by kernel_rfl)) (by unfold Func.isWrapper; first | (rw [if_pos (by decide +kernel)]; kernel_rfl) | (rw [if_neg (by decide +kernel)]; exact ⟨rfl, rfl⟩))
    (fun os started H enc _ => law_lifted (s := Rows.diskPlainSpec) Try.func6 (by kernel_rfl) rfl
      (fun H ds h => by rw [Try.params6] at h; match ds, h with | [_], _ => rfl) (by kernel_rfl) (by kernel_rfl)
      os started H enc
      (ChangeSpec.witness6 (enc := enc) (C := Try.checked) false ⟨#[], #[.slice none 0 0], []⟩ 8 (by kernel_rfl) (by kernel_rfl) (by kernel_rfl) (by kernel_rfl))
      (fun W args ds p h => by
        obtain ⟨⟨base, hok⟩, hA, hl⟩ := h
        rw [Try.params6] at hok hA hl
        obtain ⟨v0, d0, rfl, rfl, g0⟩ := trodAll_one hA
        obtain ⟨A0, n0, c0, l0, rfl, e0, a0, b0, r0, x0⟩ := open_deeds (hok 0 22 v0 rfl rfl) g0 (hl 0 22 d0 rfl rfl)
        exact plain_walk W A0 n0 c0 l0 e0 a0 r0 x0 b0))

end Go.Proofs.Ytjkfmgppmpjcmaa
