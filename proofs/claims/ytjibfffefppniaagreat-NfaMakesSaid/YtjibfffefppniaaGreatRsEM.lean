/- The document's Of. -/
import Derived.Test.YtjibfffefppniaaGreatRsDM
import Derived.Test.YtjibfffefppniaaGreatRsFM
set_option linter.unusedVariables false
set_option linter.unusedSimpArgs false
namespace Go.Proofs.YtjibfffefppniaaGreat
open Go.RowKit
attribute [local go_sem] Oper.semAt_some

theorem rof_results (tmps : Array Value) (W : World) (a : Nat) (x : Int) (v u : Value) (n : Int) (h2 : tmps.getD 2 undef = .pointer (some ⟨a, 0, none⟩)) (h3 : tmps.getD 3 undef = .int .i64 n)
    (hk : W.heap[a]? = some (.cells #[.int .i64 x, v, u] 29 (0, 0))) :
    (results Tryz.f6 tmps).run Tryz.prog W = .ok (.tuple #[.agg #[.int .i64 x, v, u], .int .i64 n]) W := by
  have g2 : tmps[2]?.getD undef = .pointer (some ⟨a, 0, none⟩) := by simpa using h2
  have g3 : tmps[3]?.getD undef = .int .i64 n := by simpa using h3
  have c0 := cell_of_row W a 0 _ _ _ hk
  have c1 := cell_of_row W a 1 _ _ _ hk
  have c2 := cell_of_row W a 2 _ _ _ hk
  simp [results, Tryz.results6, go_sem, g2, g3, c0, c1, c2]
theorem built_netk (k : Int) : Tryz.prog.built 29 [(0, Value.int .i64 k)] = some #[.int .i64 k, .slice none 0 0, .slice none 0 0] := by kernel_rfl
theorem cell_grown {w w' : World} {row : Option Nat} {a : Addr} {u : Value} (hg : w.grownBy w' row) (h : w.cell? a = some u) (hne : row ≠ some a.block) : w'.cell? a = some u :=
  (World.grownBy.cell_far hg a (World.block_lt_of_cell? w _ h) (fun e => hne e.symm)).trans h
theorem int_append {w : World} {base : Nat} {v : Value} {l : List Nat} {n x : Nat} (hn : l.length = n) (h : w.ownsRow base 3 1 v (n + 1) (l.map nv ++ [.int .i64 (x : Int)])) : OwnI w base v (l ++ [x]) := by
  subst hn
  unfold OwnI
  rw [List.length_append, List.length_singleton, List.map_append]
  exact h
theorem nblk {a b : Nat} (h1 : a ≤ b) (h2 : b < a) : False := by omega
theorem nblk2 {a b g : Nat} (h1 : a < g) (h2 : b < a) (e : b = g) : False := by omega
theorem kinds_flat (t : Rx) : ∀ (k : Nat), ∀ x ∈ flat k t, x.kind = 1 ∨ x.kind = 2 ∨ x.kind = 3 ∨ x.kind = 4 ∨ x.kind = 5 ∨ x.kind = 6 := by
  induction t with
  | nil => intro k x hx; simp [flat] at hx; subst hx; simp
  | set s => intro k x hx; simp [flat] at hx; subst hx; simp
  | seq a b iha ihb =>
    intro k x hx
    simp only [flat, List.mem_append, List.mem_singleton] at hx
    rcases hx with (hx | hx) | rfl
    · exact iha _ x hx
    · exact ihb _ x hx
    · simp
  | alt a b iha ihb =>
    intro k x hx
    simp only [flat, List.mem_append, List.mem_singleton] at hx
    rcases hx with (hx | hx) | rfl
    · exact iha _ x hx
    · exact ihb _ x hx
    · simp
  | star a iha =>
    intro k x hx
    simp only [flat, List.mem_append, List.mem_singleton] at hx
    rcases hx with hx | rfl
    · exact iha _ x hx
    · simp
  | plus a iha =>
    intro k x hx
    simp only [flat, List.mem_append, List.mem_singleton] at hx
    rcases hx with hx | rfl
    · exact iha _ x hx
    · simp
theorem kinds_of {l : List RN} (h : checkE l = 0) : ∀ x ∈ l, x.kind = 1 ∨ x.kind = 2 ∨ x.kind = 3 ∨ x.kind = 4 ∨ x.kind = 5 ∨ x.kind = 6 := by
  obtain ⟨t, rfl⟩ := flat_of_tree _ (check_zero h).2
  exact kinds_flat t 0
theorem bounds_of {l : List RN} (h : checkE l = 0) : ∀ x ∈ l, (-100000 ≤ x.a ∧ x.a ≤ 100000) ∧ (-100000 ≤ x.b ∧ x.b ≤ 100000) := by
  obtain ⟨hl, h2⟩ := check_zero h
  obtain ⟨t, rfl⟩ := flat_of_tree _ h2
  intro x hx
  have := flat_ab t 0 x hx
  rw [flat_len] at hl
  omega
theorem OfS.putE {W wr w1 : World} {g8 S : Nat} {E E1 : List Ed} {X : List Nat} {v vx : Value} (h : OfS W g8 S E X v vx wr) {q n c : Nat} (ho : OwnE w1 W.heap.size (.slice (some ⟨q, 0, none⟩) n c) E1) (hg : wr.grownBy w1 v.ownBlock) (hat : v.ownBlock = some q ∨ q = wr.heap.size) :
    w1.heap[g8]? = some (.cells #[.int .i64 (S : Int), v, vx] 29 (0, 0)) ∧ OfS W g8 S E1 X (.slice (some ⟨q, 0, none⟩) n c) vx (w1.setCell ⟨g8, 1, none⟩ (.slice (some ⟨q, 0, none⟩) n c)) := by
  have hl := (Array.getElem?_eq_some_iff.1 h.net).1
  have hl2 := (Array.getElem?_eq_some_iff.1 h.res).1
  have hne := h.ne
  have hvx := own_ne h.ed h.en
  have k1 := (hg.block g8 hl (fun e => h.nv.1 e.symm)).trans h.net
  have k2 := (hg.block W.heap.size hl2 (fun e => h.nv.2 e.symm)).trans h.res
  have ks : ∀ i, i ≠ g8 → (w1.setCell ⟨g8, 1, none⟩ (.slice (some ⟨q, 0, none⟩) n c)).heap[i]? = w1.heap[i]? := fun i hi => Below.heap_setCell _ _ _ _ (fun e => hi e)
  have hq : q ≠ g8 ∧ q ≠ W.heap.size := by
    rcases hat with e | e
    · exact ⟨fun e2 => h.nv.1 (by rw [e, e2]), fun e2 => h.nv.2 (by rw [e, e2])⟩
    · omega
  refine ⟨k1, heap_setCell_same w1 g8 1 _ _ _ k1, (ks _ (by omega)).trans k2, World.ownsRow.kept ho (grown_set w1 g8 1 _) (Or.inr (fun e => hq.1 (Option.some.inj e))), World.ownsRow.kept (World.ownsRow.kept h.en hg ?_) (grown_set w1 g8 1 _) (Or.inr h.nx.1),
    ⟨fun e => hq.1 (Option.some.inj e), fun e => hq.2 (Option.some.inj e)⟩, h.nx, bl_grown (bl_grown h.low hg (fun i e => (World.ownsRow.lt h.ed i e).1)) (grown_set w1 g8 1 _) (fun i e => by cases e; omega), hne⟩
  cases hx : vx.ownBlock with
  | none => exact Or.inl rfl
  | some i => exact Or.inr fun e => hvx i e.symm hx
theorem OfS.putX {W wr w1 : World} {g8 S : Nat} {E : List Ed} {X X1 : List Nat} {v vx : Value} (h : OfS W g8 S E X v vx wr) {q n c : Nat} (ho : OwnI w1 W.heap.size (.slice (some ⟨q, 0, none⟩) n c) X1) (hg : wr.grownBy w1 vx.ownBlock) (hat : vx.ownBlock = some q ∨ q = wr.heap.size) :
    w1.heap[g8]? = some (.cells #[.int .i64 (S : Int), v, vx] 29 (0, 0)) ∧ OfS W g8 S E X1 v (.slice (some ⟨q, 0, none⟩) n c) (w1.setCell ⟨g8, 2, none⟩ (.slice (some ⟨q, 0, none⟩) n c)) := by
  have hl := (Array.getElem?_eq_some_iff.1 h.net).1
  have hl2 := (Array.getElem?_eq_some_iff.1 h.res).1
  have hne := h.ne
  have hvx := own_ne h.ed h.en
  have k1 := (hg.block g8 hl (fun e => h.nx.1 e.symm)).trans h.net
  have k2 := (hg.block W.heap.size hl2 (fun e => h.nx.2 e.symm)).trans h.res
  have ks : ∀ i, i ≠ g8 → (w1.setCell ⟨g8, 2, none⟩ (.slice (some ⟨q, 0, none⟩) n c)).heap[i]? = w1.heap[i]? := fun i hi => Below.heap_setCell _ _ _ _ (fun e => hi e)
  have hq : q ≠ g8 ∧ q ≠ W.heap.size := by
    rcases hat with e | e
    · exact ⟨fun e2 => h.nx.1 (by rw [e, e2]), fun e2 => h.nx.2 (by rw [e, e2])⟩
    · omega
  refine ⟨k1, heap_setCell_same w1 g8 2 _ _ _ k1, (ks _ (by omega)).trans k2, World.ownsRow.kept (World.ownsRow.kept h.ed hg ?_) (grown_set w1 g8 2 _) (Or.inr h.nv.1), World.ownsRow.kept ho (grown_set w1 g8 2 _) (Or.inr (fun e => hq.1 (Option.some.inj e))),
    h.nv, ⟨fun e => hq.1 (Option.some.inj e), fun e => hq.2 (Option.some.inj e)⟩, bl_grown (bl_grown h.low hg (fun i e => (World.ownsRow.lt h.en i e).1)) (grown_set w1 g8 2 _) (fun i e => by cases e; omega), hne⟩
  cases hx : v.ownBlock with
  | none => exact Or.inl rfl
  | some i => exact Or.inr fun e => hvx i hx e.symm
set_option maxRecDepth 100000 in
set_option maxHeartbeats 16000000 in
theorem rof_all (Ls : List (List RN)) (A : Option Addr) (n c : Nat) (hn : Ls.length = n) (hn2 : n ≤ 140737488355328) (W : World) (hr : RdX W A Ls) (hlm : ∀ l ∈ Ls, l.length * 56 ≤ 140737488355328) :
    Calls Tryz.prog 6 #[.slice A n c] W (GotOf W Ls) := by
  generalize hQ : GotOf W Ls = Q
  have HQ := Lib.hid hQ
  have k0 := heap_alloc_new W (.cells #[.int .i64 0, .slice none 0 0, .slice none 0 0] 29)
  have b0 := bl_alloc (Below.refl W.heap.size W) (.cells #[.int .i64 0, .slice none 0 0, .slice none 0 0] 29)
  have bu0 := built_net0
  have bu1 := built_netk
  have HR := Lib.hid hr
  have HN := Lib.hid hn
  have HLM := Lib.hid hlm
  clear hQ hr hn
  go_enter Tryz.func6, Tryz.ntmps6
  go_upto_region 1 with fail
  generalize W.alloc (.cells #[.int .i64 0, .slice none 0 0, .slice none 0 0] 29) = w0 at *
  have K0 := Lib.hid k0
  have B0 := Lib.hid b0
  clear b0
  by_cases hbig : 64 < n
  · have hbi : (64 : Int) < (n : Int) := by omega
    have HO := Lib.hid (show ofN Ls = 5 from by rw [ofN, HN.out, if_pos hbig])
    go_wp2_with (refine wpList_store_row rfl 29 _ _ rfl W.heap.size _ rfl rfl 29 _ K0.out (by rw [size_net]; rfl) (by rfl) (by simp [Value.oneCell']) ?_)
    refine bodyPost_ret (rof_results _ _ W.heap.size 0 (.slice none 0 0) (.slice none 0 0) 5 rfl rfl (setRow_heap w0 W.heap.size _ #[.int .i64 0, .slice none 0 0, .slice none 0 0] _ _ K0.out)) rfl (post_is HQ ?_)
    unfold GotOf
    rw [HO.out]
    exact ⟨0, none, 0, 0, none, 0, 0, rfl, OwnE.nil _ _, OwnI.nil _ _, rfl, bl_setRow B0.out (Nat.le_refl _) _⟩
  have hbi : ¬ (64 : Int) < (n : Int) := by omega
  clear k0
  go_wp2_with fail
  go_loopw [4, 5] (fun v4 vi wr => ∃ k : Nat, k ≤ n ∧ v4 = .int .i64 ((1 + 2 * sizesOf (Ls.take k) : Nat) : Int) ∧ vi = .int .i64 (k : Int) ∧ Hid (firstErr (Ls.take k) = 0) ∧ Hid (sizesOf (Ls.take k) ≤ 256 * k) ∧ Hid (Below w0.heap.size w0 wr)) (fun _ vi _ => n - (intOf vi).toNat)
  case atStart => exact ⟨0, Nat.zero_le _, rfl, rfl, rfl, Nat.le_refl _, Below.refl _ _⟩
  case round =>
    obtain ⟨k, hk, rfl, rfl, HF, HS, BW⟩ := hrel
    have KW := Lib.hid ((BW.out.block W.heap.size (Array.getElem?_eq_some_iff.1 K0.out).1).trans K0.out)
    have BR := Lib.hid (bl_trans B0.out BW.out)
    by_cases hlt : k < n
    · have hkl : k < Ls.length := by rw [HN.out]; exact hlt
      obtain ⟨ad, B, m, d, hA, hc, hm, hmd, hrr⟩ := (HR.out.below BR.out) k hkl
      subst hA
      have HM := Lib.hid hm
      have HRR := Lib.hid hrr
      have HSZ := Lib.hid (sizes_next Ls k hkl)
      have HFA := Lib.hid (first_at Ls k hkl HF.out)
      have HFN := Lib.hid (first_next Ls k hkl HF.out)
      have HTB := Lib.hid (show checkE Ls[k] = 0 → 1 ≤ Ls[k].length ∧ Ls[k].length ≤ 256 from fun h => ⟨(tree_bounds h).1, (tree_bounds h).2.1⟩)
      have HSB := Lib.hid (show ∀ i (h : i < Ls.length), i < k → checkE Ls[i] = 0 from fun i h hi => by
        have h2 := first_all (Ls.take k) HF.out i (by rw [List.length_take]; omega)
        rwa [List.getElem_take] at h2)
      have HML := Lib.hid (List.getElem_mem hkl)
      generalize hl : Ls[k] = l at *
      clear hl hm hrr
      have LX := Lib.hid (show ∀ j u, [Value.slice B m d][j]? = some u → wr.cell? ((ad.add k).add j) = some u from fun j u hu => by
        match j, hu with
        | 0, hu =>
          simp at hu
          subst hu
          rw [Addr.add_add]
          exact hc)
      have HR1 := Lib.hid HRR.out
      have BW1 := BW
      have qx : wr.cell? (ad.add k) = some (.slice B m d) := hc
      go_wp2_with (refine wpList_load_part 25 1 _ rfl rfl (ad.add k) rfl [.slice B m d] (agg_rex' _) (sz_rex' _) rfl LX.out ?_)
      refine (rcheck9_any l B m d HM.out (by have h := HLM.out l HML.out; have h2 := HM.out; omega) wr HR1.out).mono ?_
      rintro e w2 ⟨rfl, hb2⟩
      have qx2 := (hb2.cell (World.block_lt_of_cell? _ _ qx)).trans qx
      have B2 := Lib.hid (bl_trans BW1.out hb2)
      have K2 := Lib.hid ((B2.out.block W.heap.size (Array.getElem?_eq_some_iff.1 K0.out).1).trans K0.out)
      clear hb2 qx LX KW BW BR HR1 BW1 HRR HML
      by_cases hce : ¬ checkE l = 0
      · have HO := Lib.hid (show ofN Ls = checkE l from by rw [ofN, HN.out, if_neg hbig, HFA.out hce, if_pos hce])
        generalize checkE l = ce at *
        have hce' : ((ce : Int) != 0) = true := by simp; omega
        go_wp2_with (refine wpList_store_row rfl 29 _ _ rfl W.heap.size _ rfl rfl 29 _ K2.out (by rw [size_net]; rfl) (by rfl) (by simp [Value.oneCell']) ?_)
        refine bodyPost_ret (rof_results _ _ W.heap.size 0 (.slice none 0 0) (.slice none 0 0) (ce : Int) rfl rfl (setRow_heap w2 W.heap.size _ #[.int .i64 0, .slice none 0 0, .slice none 0 0] _ _ K2.out)) rfl (post_is HQ ?_)
        unfold GotOf
        rw [HO.out, if_neg hce, if_neg hce, if_neg hce]
        exact ⟨0, none, 0, 0, none, 0, 0, rfl, OwnE.nil _ _, OwnI.nil _ _, rfl, bl_setRow (bl_trans B0.out B2.out) (Nat.le_refl _) _⟩
      · rw [Decidable.not_not] at hce
        have HFN2 := Lib.hid (HFN.out hce)
        have hml := (HTB.out hce).2
        rw [HM.out] at hml
        have HSN := HSZ.out
        rw [HM.out] at HSN
        have HSN := Lib.hid HSN
        have hs1 := HS.out
        rw [hce]
        clear hce HFA HFN HTB HSZ
        generalize sizesOf (Ls.take k) = sk at *
        have hw1 : IntKind.i64.wrap (2 * (m : Int)) = 2 * (m : Int) := IntWalk.i64_in _ (by omega)
        have hw2 : IntKind.i64.wrap (1 + 2 * (sk : Int) + 2 * (m : Int)) = 1 + 2 * (sk : Int) + 2 * (m : Int) := IntWalk.i64_in _ (by omega)
        go_wp2_with fail
        refine ⟨⟨k + 1, by omega, ?_, by go_num, HFN2, ?_, B2⟩, by simp [intOf]; omega⟩
        · rw [HSN.out]
          congr 1
          omega
        · rw [HSN.out]
          have := Lib.hid hs1
          exact (by omega : sk + m ≤ 256 * (k + 1))
    · obtain rfl : k = n := by omega
      rw [show Ls.take k = Ls from List.take_of_length_le (by rw [HN.out]; exact Nat.le_refl _)] at HF HS ⊢
      have hsz := HS.out
      have HNS := Lib.hid (show netS Ls = 1 + 2 * sizesOf Ls from rfl)
      generalize hsk : sizesOf Ls = sk at *
      have HSK := Lib.hid hsk
      clear hsk
      by_cases hmany : 1024 ≤ sk
      · have hmi : (2048 : Int) < 1 + 2 * (sk : Int) := by omega
        have HO := Lib.hid (show ofN Ls = 5 from by rw [ofN, HN.out, if_neg hbig, if_neg (by rw [HF.out]; simp), if_pos (by rw [HNS.out]; omega)])
        go_wp2_with (refine wpList_store_row rfl 29 _ _ rfl W.heap.size _ rfl rfl 29 _ KW.out (by rw [size_net]; rfl) (by rfl) (by simp [Value.oneCell']) ?_)
        refine bodyPost_ret (rof_results _ _ W.heap.size 0 (.slice none 0 0) (.slice none 0 0) 5 rfl rfl (setRow_heap wr W.heap.size _ #[.int .i64 0, .slice none 0 0, .slice none 0 0] _ _ KW.out)) rfl (post_is HQ ?_)
        unfold GotOf
        rw [HO.out]
        exact ⟨0, none, 0, 0, none, 0, 0, rfl, OwnE.nil _ _, OwnI.nil _ _, rfl, bl_setRow BR.out (Nat.le_refl _) _⟩
      have hmi : ¬ (2048 : Int) < 1 + 2 * (sk : Int) := by omega
      have HO := Lib.hid (show ofN Ls = 0 from by rw [ofN, HN.out, if_neg hbig, if_neg (by rw [HF.out]; simp), if_neg (by rw [HNS.out]; omega)])
      have HCK := Lib.hid (first_all Ls HF.out)
      have HLW := Lib.hid (Array.getElem?_eq_some_iff.1 KW.out).1
      obtain ⟨NS0, hNS0⟩ : ∃ x, 1 + 2 * sk = x := ⟨_, rfl⟩
      have HNS0 := Lib.hid hNS0
      have hns0 : (1 : Int) + 2 * (sk : Int) = (NS0 : Int) := by omega
      have hns1 : ((1 + 2 * sk : Nat) : Int) = (NS0 : Int) := by omega
      have k8 := heap_alloc_new wr (.cells #[.int .i64 (NS0 : Int), .slice none 0 0, .slice none 0 0] 29)
      have b8 := bl_alloc (Below.refl wr.heap.size wr) (.cells #[.int .i64 (NS0 : Int), .slice none 0 0, .slice none 0 0] 29)
      have O0 := Lib.hid (show OfS W wr.heap.size NS0 [] [] (.slice none 0 0) (.slice none 0 0) (wr.alloc (.cells #[.int .i64 (NS0 : Int), .slice none 0 0, .slice none 0 0] 29)) from
        ⟨k8, (b8.block _ HLW.out).trans KW.out, OwnE.nil _ _, OwnI.nil _ _, ⟨by simp [Value.ownBlock], by simp [Value.ownBlock]⟩, ⟨by simp [Value.ownBlock], by simp [Value.ownBlock]⟩, bl_trans BR.out b8, HLW.out⟩)
      go_upto_region 14 with fail
      clear k8 b8 bu0 bu1 BW
      generalize wr.alloc (.cells #[.int .i64 (NS0 : Int), .slice none 0 0, .slice none 0 0] 29) = w8 at *
      generalize wr.heap.size = g8 at *
      go_wp2_with fail
      go_loopw [8, 9] (fun bv vi wr => ∃ (j : Nat) (A1 A2 : Option Addr) (n1 c1 n2 c2 : Nat), j ≤ k ∧ bv = .int .i64 ((1 + 2 * sizesOf (Ls.take j) : Nat) : Int) ∧ vi = .int .i64 (j : Int) ∧ Hid (OfS W g8 NS0 (netE 1 (Ls.take j)) (netX 1 (Ls.take j)) (.slice A1 n1 c1) (.slice A2 n2 c2) wr) ∧ Hid (sizesOf (Ls.take j) ≤ 256 * j)) (fun _ vi _ => k - (intOf vi).toNat)
      case atStart => exact ⟨0, none, none, 0, 0, 0, 0, Nat.zero_le _, rfl, rfl, O0, Nat.zero_le _⟩
      case round =>
        obtain ⟨j, A1, A2, n1, c1, n2, c2, hj, rfl, rfl, OS, HS2⟩ := hrel
        clear O0
        by_cases hlj : j < k
        · have hjl : j < Ls.length := by rw [HN.out]; exact hlj
          obtain ⟨ad, B, m, d, hA, hc, hm, hmd, hrr⟩ := HR.out j hjl
          subst hA
          obtain ⟨tb1, tb2, _⟩ := tree_bounds (HCK.out j hjl)
          have HKD := Lib.hid (kinds_of (HCK.out j hjl))
          have HAB := Lib.hid (bounds_of (HCK.out j hjl))
          have HM := Lib.hid hm
          have HRR := Lib.hid hrr
          have HSZ := Lib.hid (sizes_next Ls j hjl)
          have HNE := Lib.hid (nete_next Ls 1 j hjl)
          have HNX := Lib.hid (netx_next Ls 1 j hjl)
          have HEL := Lib.hid (nete_len (Ls.take j) 1)
          have HXL := Lib.hid (netx_len (Ls.take j) 1)
          have htl : (Ls.take j).length ≤ 64 := by rw [List.length_take]; omega
          generalize Ls[j] = l at *
          rw [hm] at tb1 tb2
          have hs2 := HS2.out
          have hs3 := sizes_le Ls j
          rw [HSK.out] at hs3
          have hcw := (OS.out.low.cell (World.block_lt_of_cell? W _ hc)).trans hc
          have hjk : (j : Int) < (k : Int) := by omega
          have HELN := Lib.hid (show (netE 1 (Ls.take j)).length ≤ 10000 from by have := HEL.out; omega)
          have HXLN := Lib.hid (show (netX 1 (Ls.take j)).length ≤ 10000 from by have := HXL.out; omega)
          clear hc hm hrr
          generalize netE 1 (Ls.take j) = E0 at *
          generalize netX 1 (Ls.take j) = X0 at *
          generalize hSJ : 1 + 2 * sizesOf (Ls.take j) = SJ at *
          have HSJ := Lib.hid hSJ
          have hsj : SJ ≤ 3000 := by omega
          clear hSJ HEL HXL
          go_wp2_with fail
          go_loopw [11] (fun kv wr => ∃ (q : Nat) (A1 : Option Addr) (n1 c1 : Nat), q ≤ m ∧ kv = .int .i64 (q : Int) ∧ Hid (OfS W g8 NS0 (E0 ++ nodesE (SJ : Int) (l.take q) 0) X0 (.slice A1 n1 c1) (.slice A2 n2 c2) wr)) (fun kv _ => m - (intOf kv).toNat)
          case atStart => exact ⟨0, A1, n1, c1, Nat.zero_le _, rfl, by rw [show E0 ++ nodesE (SJ : Int) (l.take 0) 0 = E0 from by simp [nodesE]]; exact OS⟩
          case round =>
            obtain ⟨q, A1, n1, c1, hq, rfl, OQ⟩ := hrel
            clear OS hcw
            have HRB := Lib.hid (fun (w : World) (hb : Below W.heap.size W w) => HRR.out.below hb)
            by_cases hlq : q < m
            · have hql : q < l.length := by rw [HM.out]; exact hlq
              obtain ⟨adB, hB, hcW⟩ := HRR.out q hql
              subst hB
              have hcs := fun j u hu => (OQ.out.low.cell (World.block_lt_of_cell? W _ (hcW j u hu))).trans (hcW j u hu)
              have HNN := Lib.hid (nodes_next (SJ : Int) l q 0 hql)
              have hkd := HKD.out _ (List.getElem_mem hql)
              have hab := HAB.out _ (List.getElem_mem hql)
              have HNL := Lib.hid (show (E0 ++ nodesE (SJ : Int) (l.take q) 0).length ≤ 20000 from by have h1 := nodes_len (SJ : Int) (l.take q) 0; have h2 := HELN.out; rw [List.length_take] at h1; rw [List.length_append]; omega)
              generalize l[q] = x at *
              have HED := Lib.hid (fun w => redges_any x SJ q (by omega) (by omega) hab.1 hab.2 hkd w)
              have HLX := Lib.hid (edges_len x (partE (SJ : Int) (q : Int)) (partE (SJ : Int) x.a) (partE (SJ : Int) x.b))
              rw [show 0 + q = q by omega] at HNN
              obtain ⟨xk, xa, xb, z0, z1, z2, z3⟩ := x
              have HED := Lib.hid (show ∀ w, Calls Tryz.prog 22 #[.agg #[.int .i64 xk, .int .u64 (z0.toNat : Int), .int .u64 (z1.toNat : Int), .int .u64 (z2.toNat : Int), .int .u64 (z3.toNat : Int), .int .i64 xa, .int .i64 xb], .int .i64 (SJ : Int), .int .i64 (q : Int)] w (GotEs w (edgesE ⟨xk, xa, xb, ⟨z0, z1, z2, z3⟩⟩ (partE (SJ : Int) (q : Int)) (partE (SJ : Int) xa) (partE (SJ : Int) xb))) from HED.out)
              dsimp only at HNN HLX
              generalize edgesE ⟨xk, xa, xb, ⟨z0, z1, z2, z3⟩⟩ (partE (SJ : Int) (q : Int)) (partE (SJ : Int) xa) (partE (SJ : Int) xb) = ex at *
              have HNN2 := Lib.hid (show E0 ++ nodesE (SJ : Int) (l.take (q + 1)) 0 = (E0 ++ nodesE (SJ : Int) (l.take q) 0) ++ ex from by rw [HNN.out, List.append_assoc])
              generalize E0 ++ nodesE (SJ : Int) (l.take q) 0 = EK at *
              have HCS := Lib.hid (show ∀ j u, [.int .i64 xk, .int .u64 (z0.toNat : Int), .int .u64 (z1.toNat : Int), .int .u64 (z2.toNat : Int), .int .u64 (z3.toNat : Int), .int .i64 xa, .int .i64 xb][j]? = some u → wr.cell? ((adB.add (q * 7)).add j) = some u from hcs)
              have hqm : (q : Int) < (m : Int) := by omega
              have HND := Lib.hid (show ∀ j u, [.int .i64 xk, .int .u64 (z0.toNat : Int), .int .u64 (z1.toNat : Int), .int .u64 (z2.toNat : Int), .int .u64 (z3.toNat : Int), .int .i64 xa, .int .i64 xb][j]? = some u → ((adB.add (q * 7)).add j).block < W.heap.size from fun j u hu => World.block_lt_of_cell? W _ (hcW j u (by exact hu)))
              clear hcs hcW hkd hab hql HNN
              obtain ⟨i0, hi, hz0, hz1, hz2⟩ := info_parts info_edge
              go_wp2_with fail
              refine wp_region_held_drew (S := fun W' => ∀ j u, [.int .i64 xk, .int .u64 (z0.toNat : Int), .int .u64 (z1.toNat : Int), .int .u64 (z2.toNat : Int), .int .u64 (z3.toNat : Int), .int .i64 xa, .int .i64 xb][j]? = some u → W'.cell? ((adB.add (q * 7)).add j) = some u) (by kernel_rfl) HCS.out (fun hHeld => ?_)
              have PD := Lib.hid (OQ.out.then (Below.drew (Below.refl wr.heap.size wr)))
              clear HCS OQ
              generalize wr.drew = wd at *
              try simp only [List.getElem_toArray, List.getElem_cons_zero, List.getElem_cons_succ, Act.put, List.setIfInBounds_toArray, List.set_cons_zero, List.set_cons_succ]
              refine wpAnyH_take (i := 0) (v := ?vze00) rfl (by kernel_rfl) (by kernel_rfl) (by kernel_rfl) (fun _ _ _ h => h) (Or.inl ⟨by rfl, ?yze00⟩) hHeld ?rze00
              case yze00 => (intro wS hSw; clear hSw; go_simp; try (with_reducible rfl))
              try simp only [List.getElem_toArray, List.getElem_cons_zero, List.getElem_cons_succ, Act.put, List.setIfInBounds_toArray, List.set_cons_zero, List.set_cons_succ]
              refine wpAnyH_take (i := 2) (v := ?vze02) rfl (by kernel_rfl) (by kernel_rfl) (by kernel_rfl) (fun _ _ _ h => h) (Or.inl ⟨by rfl, ?yze02⟩) hHeld ?rze02
              case yze02 => (intro wS hSw; clear hSw; go_simp; try (with_reducible rfl))
              try simp only [List.getElem_toArray, List.getElem_cons_zero, List.getElem_cons_succ, Act.put, List.setIfInBounds_toArray, List.set_cons_zero, List.set_cons_succ]
              refine wpAnyH_take (i := 3) (v := ?vze03) rfl (by kernel_rfl) (by kernel_rfl) (by kernel_rfl) (fun _ _ _ h => h) (Or.inl ⟨by rfl, ?yze03⟩) hHeld ?rze03
              case yze03 => (intro wS hSw; clear hSw; go_simp; try (with_reducible rfl))
              try simp only [List.getElem_toArray, List.getElem_cons_zero, List.getElem_cons_succ, Act.put, List.setIfInBounds_toArray, List.set_cons_zero, List.set_cons_succ]
              refine wpAnyH_take (i := 4) (v := ?vze04) rfl (by kernel_rfl) (by kernel_rfl) (by kernel_rfl) (fun _ _ _ h => h) (Or.inl ⟨by rfl, ?yze04⟩) hHeld ?rze04
              case yze04 => (intro wS hSw; clear hSw; go_simp; try (with_reducible rfl))
              try simp only [List.getElem_toArray, List.getElem_cons_zero, List.getElem_cons_succ, Act.put, List.setIfInBounds_toArray, List.set_cons_zero, List.set_cons_succ]
              refine wpAnyH_take (i := 5) (v := .agg #[.int .i64 xk, .int .u64 (z0.toNat : Int), .int .u64 (z1.toNat : Int), .int .u64 (z2.toNat : Int), .int .u64 (z3.toNat : Int), .int .i64 xa, .int .i64 xb]) rfl (by kernel_rfl) (by kernel_rfl) (by kernel_rfl) (fun _ _ _ h => h) (yields_part 54 7 (by rfl) (.tmp 67) rfl (adB.add (q * 7)) rfl [.int .i64 xk, .int .u64 (z0.toNat : Int), .int .u64 (z1.toNat : Int), .int .u64 (z2.toNat : Int), .int .u64 (z3.toNat : Int), .int .i64 xa, .int .i64 xb] agg_rnd sz_rnd rfl (fun w hw => hw)) hHeld ?_
              try simp only [List.getElem_toArray, List.getElem_cons_zero, List.getElem_cons_succ, Act.put, List.setIfInBounds_toArray, List.set_cons_zero, List.set_cons_succ]
              refine wpAnyH_take (i := 6) (v := ?vze06) rfl (by kernel_rfl) (by kernel_rfl) (by kernel_rfl) (fun _ _ _ h => h) (Or.inl ⟨by rfl, ?yze06⟩) hHeld ?rze06
              case yze06 => (intro wS hSw; clear hSw; go_simp; try (with_reducible rfl))
              try simp only [List.getElem_toArray, List.getElem_cons_zero, List.getElem_cons_succ, Act.put, List.setIfInBounds_toArray, List.set_cons_zero, List.set_cons_succ]
              refine wpAnyH_take (i := 7) (v := ?vze07) rfl (by kernel_rfl) (by kernel_rfl) (by kernel_rfl) (fun _ _ _ h => h) (Or.inl ⟨by rfl, ?yze07⟩) hHeld ?rze07
              case yze07 => (intro wS hSw; clear hSw; go_simp; try (with_reducible rfl))
              try simp only [List.getElem_toArray, List.getElem_cons_zero, List.getElem_cons_succ, Act.put, List.setIfInBounds_toArray, List.set_cons_zero, List.set_cons_succ]
              refine wpAnyH_ready (rs := [1, 8]) (by kernel_rfl) (by simp) (AllReadyH.cons rfl (fun K hK => ?_) (AllReadyH.cons rfl (fun K hK => ?_) AllReadyH.nil))
              · skip
                have qn := cell_of_row wd g8 1 _ _ _ PD.out.net
                go_simp
                refine hK.out _ _ hHeld (fun hHeld => ?_)
                clear hK K qn
                try simp only [List.getElem_toArray, List.getElem_cons_zero, List.getElem_cons_succ, Act.put, List.setIfInBounds_toArray, List.set_cons_zero, List.set_cons_succ]
                refine wpAnyH_ready (rs := [8]) (by kernel_rfl) (by simp) (AllReadyH.cons rfl (fun K hK => ?_) AllReadyH.nil)
                go_simp
                go_at_call 22
                refine (HED.out _).mono ?_
                rintro er w2 ⟨ge, me, rfl, hle, hre, hb⟩
                have P2 := Lib.hid (PD.out.then hb)
                have HLE := Lib.hid hle
                have HRE := Lib.hid hre
                have hS1 : ∀ j u, [.int .i64 xk, .int .u64 (z0.toNat : Int), .int .u64 (z1.toNat : Int), .int .u64 (z2.toNat : Int), .int .u64 (z3.toNat : Int), .int .i64 xa, .int .i64 xb][j]? = some u → w2.cell? ((adB.add (q * 7)).add j) = some u := fun j u hu => (hb.cell (World.block_lt_of_cell? _ _ (hHeld j u hu))).trans (hHeld j u hu)
                clear hHeld hb hle hre PD
                go_wp2_with fail
                refine hK.out _ _ hS1 (fun hHeld => ?_)
                clear hK K hS1
                try simp only [List.getElem_toArray, List.getElem_cons_zero, List.getElem_cons_succ, Act.put, List.setIfInBounds_toArray, List.set_cons_zero, List.set_cons_succ]
                refine wpAnyH_ready (rs := [9]) (by kernel_rfl) (by simp) (AllReadyH.cons rfl (fun K hK => ?_) AllReadyH.nil)
                rw [if_pos (by rfl)]
                have hnl := HNL.out
                have hlx := HLX.out
                refine wp_append_lies _ _ _ 26 rfl W.heap.size 39 i0 zeroEd 7 56 Tryz.underlying26 hi hz0 hz1 hz2 rfl (by decide) (.slice A1 n1 c1) EK.length (cellsEs EK) rfl P2.out.ed ⟨ge, 0, none⟩ me me (cellsEs ex) rfl (by rw [cellsEs_len, HLE.out]) (RdE.cells HRE.out) (cellsEs_one _) (by have := HLE.out; omega) (by simp only [maxLen]; have := HLE.out; omega) (by have := HLE.out; omega) P2.out.low.size _ rfl ?_
                intro qq cap w3 ho3 hg3 hat3 hlt3
                obtain ⟨kz, hP6⟩ := P2.out.putE (edge_append rfl ex HLE.out ho3) hg3 hat3
                have qc := cell_of_row w3 g8 1 _ _ _ kz
                have qf := frozen_of_row w3 g8 1 _ _ kz
                have hS1 : ∀ j u, [.int .i64 xk, .int .u64 (z0.toNat : Int), .int .u64 (z1.toNat : Int), .int .u64 (z2.toNat : Int), .int .u64 (z3.toNat : Int), .int .i64 xa, .int .i64 xb][j]? = some u → w3.cell? ((adB.add (q * 7)).add j) = some u := fun j u hu => cell_grown hg3 (hHeld j u hu) (fun e => nblk (World.ownsRow.lt P2.out.ed _ e).1 (HND.out j u hu))
                have hS2 : ∀ j u, [.int .i64 xk, .int .u64 (z0.toNat : Int), .int .u64 (z1.toNat : Int), .int .u64 (z2.toNat : Int), .int .u64 (z3.toNat : Int), .int .i64 xa, .int .i64 xb][j]? = some u → (w3.setCell ⟨g8, 1, none⟩ (.slice (some ⟨qq, 0, none⟩) (EK.length + me) cap)).cell? ((adB.add (q * 7)).add j) = some u := fun j u hu => (cell_same (Below.heap_setCell w3 ⟨g8, 1, none⟩ _ _ (fun e => nblk2 P2.out.ne (HND.out j u hu) e))).trans (hS1 j u hu)
                clear hHeld hnl hlx
                refine hK.out _ _ hS1 (fun hHeld => ?_)
                clear hK K hS1 kz hg3 hat3 hlt3 ho3
                try simp only [List.getElem_toArray, List.getElem_cons_zero, List.getElem_cons_succ, Act.put, List.setIfInBounds_toArray, List.set_cons_zero, List.set_cons_succ]
                refine wpAnyH_take (i := 10) (v := ?vze110) rfl (by kernel_rfl) (by kernel_rfl) (by kernel_rfl) (fun _ _ _ h => h) (Or.inl ⟨by rfl, ?yze110⟩) hHeld ?rze110
                case yze110 => (intro wS hSw; clear hSw; go_simp; try (with_reducible rfl))
                try simp only [List.getElem_toArray, List.getElem_cons_zero, List.getElem_cons_succ, Act.put, List.setIfInBounds_toArray, List.set_cons_zero, List.set_cons_succ]
                refine wpAnyH_ready (rs := [11]) (by kernel_rfl) (by simp) (AllReadyH.cons rfl (fun K hK => ?_) AllReadyH.nil)
                clear hHeld
                go_simp
                refine hK.out _ _ hS2 (fun hHeld => ?_)
                clear hK K hS2 qc qf
                try simp only [List.getElem_toArray, List.getElem_cons_zero, List.getElem_cons_succ, Act.put, List.setIfInBounds_toArray, List.set_cons_zero, List.set_cons_succ]
                refine wpAnyH_done (by kernel_rfl) ?_ _
                have PE := Lib.hid hP6
                clear hP6
                go_wp2_with fail
                refine ⟨⟨q + 1, some ⟨qq, 0, none⟩, EK.length + me, cap, by omega, by go_num, ?_⟩, by simp [intOf]; omega⟩
                rw [HNN2.out]
                exact PE.out
              · skip
                go_simp
                go_at_call 22
                refine (HED.out _).mono ?_
                rintro er w2 ⟨ge, me, rfl, hle, hre, hb⟩
                have P2 := Lib.hid (PD.out.then hb)
                have HLE := Lib.hid hle
                have HRE := Lib.hid hre
                have hS1 : ∀ j u, [.int .i64 xk, .int .u64 (z0.toNat : Int), .int .u64 (z1.toNat : Int), .int .u64 (z2.toNat : Int), .int .u64 (z3.toNat : Int), .int .i64 xa, .int .i64 xb][j]? = some u → w2.cell? ((adB.add (q * 7)).add j) = some u := fun j u hu => (hb.cell (World.block_lt_of_cell? _ _ (hHeld j u hu))).trans (hHeld j u hu)
                clear hHeld hb hle hre PD
                go_wp2_with fail
                refine hK.out _ _ hS1 (fun hHeld => ?_)
                clear hK K hS1
                try simp only [List.getElem_toArray, List.getElem_cons_zero, List.getElem_cons_succ, Act.put, List.setIfInBounds_toArray, List.set_cons_zero, List.set_cons_succ]
                refine wpAnyH_ready (rs := [1]) (by kernel_rfl) (by simp) (AllReadyH.cons rfl (fun K hK => ?_) AllReadyH.nil)
                have qn := cell_of_row w2 g8 1 _ _ _ P2.out.net
                go_simp
                refine hK.out _ _ hHeld (fun hHeld => ?_)
                clear hK K qn
                try simp only [List.getElem_toArray, List.getElem_cons_zero, List.getElem_cons_succ, Act.put, List.setIfInBounds_toArray, List.set_cons_zero, List.set_cons_succ]
                refine wpAnyH_ready (rs := [9]) (by kernel_rfl) (by simp) (AllReadyH.cons rfl (fun K hK => ?_) AllReadyH.nil)
                rw [if_pos (by rfl)]
                have hnl := HNL.out
                have hlx := HLX.out
                refine wp_append_lies _ _ _ 26 rfl W.heap.size 39 i0 zeroEd 7 56 Tryz.underlying26 hi hz0 hz1 hz2 rfl (by decide) (.slice A1 n1 c1) EK.length (cellsEs EK) rfl P2.out.ed ⟨ge, 0, none⟩ me me (cellsEs ex) rfl (by rw [cellsEs_len, HLE.out]) (RdE.cells HRE.out) (cellsEs_one _) (by have := HLE.out; omega) (by simp only [maxLen]; have := HLE.out; omega) (by have := HLE.out; omega) P2.out.low.size _ rfl ?_
                intro qq cap w3 ho3 hg3 hat3 hlt3
                obtain ⟨kz, hP6⟩ := P2.out.putE (edge_append rfl ex HLE.out ho3) hg3 hat3
                have qc := cell_of_row w3 g8 1 _ _ _ kz
                have qf := frozen_of_row w3 g8 1 _ _ kz
                have hS1 : ∀ j u, [.int .i64 xk, .int .u64 (z0.toNat : Int), .int .u64 (z1.toNat : Int), .int .u64 (z2.toNat : Int), .int .u64 (z3.toNat : Int), .int .i64 xa, .int .i64 xb][j]? = some u → w3.cell? ((adB.add (q * 7)).add j) = some u := fun j u hu => cell_grown hg3 (hHeld j u hu) (fun e => nblk (World.ownsRow.lt P2.out.ed _ e).1 (HND.out j u hu))
                have hS2 : ∀ j u, [.int .i64 xk, .int .u64 (z0.toNat : Int), .int .u64 (z1.toNat : Int), .int .u64 (z2.toNat : Int), .int .u64 (z3.toNat : Int), .int .i64 xa, .int .i64 xb][j]? = some u → (w3.setCell ⟨g8, 1, none⟩ (.slice (some ⟨qq, 0, none⟩) (EK.length + me) cap)).cell? ((adB.add (q * 7)).add j) = some u := fun j u hu => (cell_same (Below.heap_setCell w3 ⟨g8, 1, none⟩ _ _ (fun e => nblk2 P2.out.ne (HND.out j u hu) e))).trans (hS1 j u hu)
                clear hHeld hnl hlx
                refine hK.out _ _ hS1 (fun hHeld => ?_)
                clear hK K hS1 kz hg3 hat3 hlt3 ho3
                try simp only [List.getElem_toArray, List.getElem_cons_zero, List.getElem_cons_succ, Act.put, List.setIfInBounds_toArray, List.set_cons_zero, List.set_cons_succ]
                refine wpAnyH_take (i := 10) (v := ?vze210) rfl (by kernel_rfl) (by kernel_rfl) (by kernel_rfl) (fun _ _ _ h => h) (Or.inl ⟨by rfl, ?yze210⟩) hHeld ?rze210
                case yze210 => (intro wS hSw; clear hSw; go_simp; try (with_reducible rfl))
                try simp only [List.getElem_toArray, List.getElem_cons_zero, List.getElem_cons_succ, Act.put, List.setIfInBounds_toArray, List.set_cons_zero, List.set_cons_succ]
                refine wpAnyH_ready (rs := [11]) (by kernel_rfl) (by simp) (AllReadyH.cons rfl (fun K hK => ?_) AllReadyH.nil)
                clear hHeld
                go_simp
                refine hK.out _ _ hS2 (fun hHeld => ?_)
                clear hK K hS2 qc qf
                try simp only [List.getElem_toArray, List.getElem_cons_zero, List.getElem_cons_succ, Act.put, List.setIfInBounds_toArray, List.set_cons_zero, List.set_cons_succ]
                refine wpAnyH_done (by kernel_rfl) ?_ _
                have PE := Lib.hid hP6
                clear hP6
                go_wp2_with fail
                refine ⟨⟨q + 1, some ⟨qq, 0, none⟩, EK.length + me, cap, by omega, by go_num, ?_⟩, by simp [intOf]; omega⟩
                rw [HNN2.out]
                exact PE.out
            · obtain rfl : q = m := by omega
              rw [show l.take q = l from List.take_of_length_le (by rw [HM.out]; exact Nat.le_refl _)] at OQ
              have HNL := Lib.hid (show (E0 ++ nodesE (SJ : Int) l 0).length ≤ 20000 from by have h1 := nodes_len (SJ : Int) l 0; have h2 := HELN.out; have h3 := HM.out; rw [List.length_append]; omega)
              have HSL := Lib.hid (show SJ + 2 * (l.length - 1) = SJ + 2 * (q - 1) from by rw [HM.out])
              obtain ⟨r, hr⟩ : ∃ r, SJ + 2 * (q - 1) = r := ⟨_, rfl⟩
              have HRT := Lib.hid hr
              have HNE2 := Lib.hid (show netE 1 (Ls.take (j + 1)) = (E0 ++ nodesE (SJ : Int) l 0) ++ [freeE 0 (r : Int)] from by rw [HNE.out, HSL.out, hr]; try simp)
              have HNX2 := Lib.hid (show netX 1 (Ls.take (j + 1)) = X0 ++ [r + 1] from by rw [HNX.out, HSL.out, hr])
              clear HNE HNX HSL
              generalize E0 ++ nodesE (SJ : Int) l 0 = EN at *
              have u1 : IntKind.i64.wrap ((q : Int) - 1) = ((q - 1 : Nat) : Int) := by rw [IntWalk.i64_in _ (by omega)]; omega
              have u2 : IntKind.i64.wrap (2 * ((q - 1 : Nat) : Int)) = ((2 * (q - 1) : Nat) : Int) := by rw [IntWalk.i64_in _ (by omega)]; omega
              have u3 : IntKind.i64.wrap ((SJ : Int) + ((2 * (q - 1) : Nat) : Int)) = (r : Int) := by rw [IntWalk.i64_in _ (by omega)]; omega
              have u3' : IntKind.i64.wrap ((SJ : Int) + 2 * ((q - 1 : Nat) : Int)) = (r : Int) := by rw [IntWalk.i64_in _ (by omega)]; omega
              have u4 : IntKind.i64.wrap ((r : Int) + 1) = ((r + 1 : Nat) : Int) := by rw [IntWalk.i64_in _ (by omega)]; omega
              have u5 : IntKind.i64.wrap (2 * (q : Int)) = 2 * (q : Int) := IntWalk.i64_in _ (by omega)
              obtain ⟨S2, hS2⟩ : ∃ x, SJ + 2 * q = x := ⟨_, rfl⟩
              have u6 : IntKind.i64.wrap ((SJ : Int) + 2 * (q : Int)) = (S2 : Int) := by rw [IntWalk.i64_in _ (by omega)]; omega
              have HS2' := Lib.hid hS2
              clear hr hS2
              have bu := built_free 0 (r : Int)
              obtain ⟨i0, hi, hz0, hz1, hz2⟩ := info_parts info_edge
              obtain ⟨i1, hy, hy0, hy1, hy2⟩ := info_parts info_int
              have qc1 := cell_of_row wr g8 1 _ _ _ OQ.out.net
              have PA := Lib.hid (OQ.out.then (bl_alloc (Below.refl _ wr) (.cells #[.int .i64 0, .int .i64 (r : Int), .int .u64 0, .int .u64 0, .int .u64 0, .int .u64 0, .bool true] 39)))
              have KA := Lib.hid (heap_alloc_new wr (.cells #[.int .i64 0, .int .i64 (r : Int), .int .u64 0, .int .u64 0, .int .u64 0, .int .u64 0, .bool true] 39))
              have hnl := HNL.out
              have hxl := HXLN.out
              clear OQ
              go_upto_region 25 with (at_builtin; refine wpList_append_lies _ rfl _ _ 26 rfl W.heap.size 39 i0 zeroEd 7 56 Tryz.underlying26 hi hz0 hz1 hz2 rfl (by decide) (.slice A1 n1 c1) EN.length (cellsEs EN) rfl PA.out.ed ⟨wr.heap.size, 0, none⟩ 1 1 (cellsEs [freeE 0 (r : Int)]) rfl rfl (RdE.cells (rde_row KA.out rfl)) (cellsEs_one _) (by omega) (by simp only [maxLen]; omega) (by omega) PA.out.low.size _ rfl ?_; intro qq cap w3 ho3 hg3 hat3 hlt3; obtain ⟨kz, hP6⟩ := PA.out.putE (edge_append rfl [freeE 0 (r : Int)] rfl ho3) hg3 hat3; have qc := cell_of_row w3 g8 1 _ _ _ kz; have qf := frozen_of_row w3 g8 1 _ _ kz; have PB := Lib.hid hP6)
              clear qc qf kz hg3 hat3 hlt3 ho3 PA KA qc1
              generalize w3.setCell ⟨g8, 1, none⟩ (.slice (some ⟨qq, 0, none⟩) (EN.length + 1) cap) = w7 at *
              have qc2 := cell_of_row w7 g8 2 _ _ _ hP6.net
              have P8 := hP6.then (bl_alloc (Below.refl _ w7) (.cells #[.int .i64 ((r + 1 : Nat) : Int)] 3))
              clear hP6
              go_upto_region 26 with (at_builtin; refine wpList_append_lies _ rfl _ _ 27 rfl W.heap.size 3 i1 (.int .i64 0) 1 8 Tryz.underlying27 hy hy0 hy1 hy2 rfl (by decide) (.slice A2 n2 c2) X0.length (X0.map nv) rfl P8.en ⟨w7.heap.size, 0, none⟩ 1 1 [.int .i64 ((r + 1 : Nat) : Int)] rfl rfl (one_row _ _ _) (by simp [Value.oneCell']) (by omega) (by simp only [maxLen]; omega) (by omega) P8.low.size _ rfl ?_; intro q2 cap2 w8 ho8 hg8 hat8 hlt8; obtain ⟨kz2, hP9⟩ := P8.putX (int_append rfl ho8) hg8 hat8; have c22 := cell_of_row w8 g8 2 _ _ _ kz2; have f22 := frozen_of_row w8 g8 2 _ _ kz2)
              clear c22 f22 kz2 hg8 hat8 hlt8 ho8 P8 qc2 PB
              have PE := Lib.hid hP9
              clear hP9
              go_wp2_with fail
              refine ⟨⟨j + 1, some ⟨qq, 0, none⟩, some ⟨q2, 0, none⟩, EN.length + 1, cap, X0.length + 1, cap2, by omega, ?_, by go_num, ?_, ?_⟩, by simp [intOf]; omega⟩
              · rw [HSZ.out]; have h1 := HS2'.out; have h2 := HSJ.out; have h3 := HM.out; go_num
              · rw [HNE2.out, HNX2.out]; exact PE.out
              · rw [HSZ.out, HM.out]
                exact (by omega : sizesOf (Ls.take j) + q ≤ 256 * (j + 1))
        · obtain rfl : j = k := by omega
          rw [show Ls.take j = Ls from List.take_of_length_le (by rw [HN.out]; exact Nat.le_refl _)] at OS
          have LN := Lib.hid (load_net wr OS.out.net)
          have KR := Lib.hid OS.out.res
          have HNS2 := Lib.hid (show netS Ls = NS0 from by rw [show netS Ls = 1 + 2 * sizesOf Ls from rfl, HSK.out]; exact HNS0.out)
          clear HS2
          go_wp2_with (first | (refine wpList_load_part 29 3 _ rfl rfl ⟨g8, 0, none⟩ rfl [.int .i64 (NS0 : Int), .slice A1 n1 c1, .slice A2 n2 c2] (agg_net _) (sz_net _) rfl LN.out ?_) | (refine wpList_store_row rfl 29 _ _ rfl W.heap.size _ rfl rfl 29 _ KR.out (by rw [size_net]; rfl) (by rfl) (by simp [Value.oneCell']) ?_))
          refine bodyPost_ret (rof_results _ _ W.heap.size (NS0 : Int) (.slice A1 n1 c1) (.slice A2 n2 c2) 0 rfl rfl (setRow_heap wr W.heap.size _ #[.int .i64 (NS0 : Int), .slice A1 n1 c1, .slice A2 n2 c2] _ _ KR.out)) rfl (post_is HQ ?_)
          have hg : wr.grownBy (wr.setRow W.heap.size #[.int .i64 (NS0 : Int), .slice A1 n1 c1, .slice A2 n2 c2]) (some W.heap.size) := ⟨rfl, rfl, rfl, by simp, fun j hj hne => setRow_other _ _ _ _ (fun e => hne (by rw [e]))⟩
          unfold GotOf
          rw [HO.out, if_pos rfl, if_pos rfl, if_pos rfl, HNS2.out]
          exact ⟨NS0, A1, n1, c1, A2, n2, c2, rfl, World.ownsRow.kept OS.out.ed hg (Or.inr OS.out.nv.2), World.ownsRow.kept OS.out.en hg (Or.inr OS.out.nx.2), rfl, bl_setRow OS.out.low (Nat.le_refl _) _⟩

end Go.Proofs.YtjibfffefppniaaGreat
