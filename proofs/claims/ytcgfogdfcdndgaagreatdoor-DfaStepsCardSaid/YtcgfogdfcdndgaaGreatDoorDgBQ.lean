/- The maker of machines: closed: states, and what is reached from them for nothing, rising. -/
import Derived.Test.YtcgfogdfcdndgaaGreatDoorDgAQ
set_option linter.unusedVariables false
set_option linter.unusedSimpArgs false
namespace Go.Proofs.YtcgfogdfcdndgaaGreatDoor
open Go.RowKit
attribute [local go_sem] Oper.semAt_some

/-- What does not turn: the net, and its edges by the states that they lead from. -/
structure StD (W0 W1 : World) (n1 g gm gr S : Nat) (E : List Ed) (gf ge : Nat) (Af Ae : Nat → Option Addr) (cf ce : Nat → Nat) : Prop where
  pl : Pl W0 n1 g gm gr S
  ed : EdN S E
  e2 : E.length ≤ 8192
  fre : ∀ W', Kp n1 g gm gr W1 W' → ∀ s, s < S → W'.cell? ⟨gf, s, none⟩ = some (.slice (Af s) (freesD E s).length (cf s)) ∧ RdZ W' (Af s) (freesD E s)
  edg : ∀ W', Kp n1 g gm gr W1 W' → ∀ s, s < S → W'.cell? ⟨ge, s, none⟩ = some (.slice (Ae s) (edgesD E s).length (ce s)) ∧ RdE W' (Ae s) (edgesD E s)
theorem frees_in {S : Nat} {E : List Ed} (hE : EdN S E) (s : Nat) : InN S (freesD E s) := fun x hx => by
  unfold freesD outsE at hx
  simp only [List.mem_map, List.mem_filter] at hx
  obtain ⟨e, ⟨⟨h1, _⟩, _⟩, rfl⟩ := hx
  exact hE.tn h1
theorem frees_len (E : List Ed) (s : Nat) : (freesD E s).length ≤ E.length := by
  unfold freesD outsE
  rw [List.length_map]
  exact Nat.le_trans (List.length_filter_le _ _) (List.length_filter_le _ _)
theorem edges_lenD (E : List Ed) (s : Nat) : (edgesD E s).length ≤ E.length := by
  unfold edgesD outsE
  exact Nat.le_trans (List.length_filter_le _ _) (List.length_filter_le _ _)
theorem Kp.fr {n1 g gm gr : Nat} {W1 W W' : World} {v : Value} (h : Kp n1 g gm gr W1 W) (hf : Fr g gr v W W') (hv : ∀ i, v.ownBlock = some i → n1 ≤ i) : Kp n1 g gm gr W1 W' :=
  ⟨Nat.le_trans h.size hf.size, fun i hi h1 h2 h3 => (hf.keep i (Nat.lt_of_lt_of_le hi h.size) h1 h3 (fun e => by have := hv i e; omega)).trans (h.keep i hi h1 h2 h3)⟩
/-- What closed answers. -/
def GotCd (W0 W1 : World) (n1 g gm gr S : Nat) (cl : Nat → Int) (m : Mv) (rd : Nat) (W : World) (l : List Nat) (e : Ending) (W' : World) : Prop :=
  ∃ v, e = .returned v ∧ OwnI W' W.heap.size v l ∧ (∃ f, MkR W0 W1 n1 g gm gr S cl m rd f W' ∧ ∀ s, s < S → f s ≤ rd) ∧ Fr g gr (.slice none 0 0) W W'

set_option maxRecDepth 100000 in
set_option maxHeartbeats 4000000 in
theorem closed_any {W0 W1 : World} {n1 g gm gr S : Nat} {E : List Ed} {gf ge : Nat} {Af Ae : Nat → Option Addr} {cf ce : Nat → Nat} {cl : Nat → Int} {m : Mv} (st : StD W0 W1 n1 g gm gr S E gf ge Af Ae cf ce)
    (hm : m.fr = .slice (some ⟨gf, 0, none⟩) S S) (rd : Nat) (hrd : rd < 1000000) (A : Option Addr) (n c : Nat) (xs : List Nat) (hn : xs.length = n) (hn2 : n ≤ 140737488355328) (hxs : InN S xs) (W : World)
    (f : Nat → Nat) (h : MkR W0 W1 n1 g gm gr S cl m rd f W) (hfl : ∀ s, s < S → f s ≤ rd) (hst : ∀ W', Fr g gr (.slice none 0 0) W W' → RdZ W' A xs) :
    Calls Tryz.prog 56 #[.pointer (some ⟨g, 0, none⟩), .slice A n c] W (GotCd W0 W1 n1 g gm gr S cl m (rd + 1) W (closeL S E xs)) := by
  obtain ⟨r1, hr1⟩ : ∃ r, rd + 1 = r := ⟨_, rfl⟩
  have hrd1 : r1 < 10000000 := by omega
  rw [hr1]
  generalize hQ : GotCd W0 W1 n1 g gm gr S cl m r1 W (closeL S E xs) = Q
  have HQ := Lib.hid hQ
  have c9 := h.c9
  have z9 := h.free 265
  have h1 := h.put st.pl 9 (.int .i64 (r1 : Int)) m r1 rfl
  have hg := grown_set W g 265 (.int .i64 (r1 : Int))
  have e1 : (rd : Int) + 1 = (r1 : Int) := by omega
  have RN := Lib.hid (show Rnd W0 W1 n1 g gm gr S cl m r1 [] (W.setCell ⟨g, 265, none⟩ (.int .i64 (r1 : Int))) from ⟨f, h1, fun s hs => ⟨by have := hfl s hs; omega, fun e => by have := hfl s hs; omega, fun e => absurd e (by simp)⟩, List.nodup_nil, fun x hx => absurd hx (by simp)⟩)
  have F1 := Lib.hid (show Fr g gr (.slice none 0 0) W (W.setCell ⟨g, 265, none⟩ (.int .i64 (r1 : Int))) from Fr.of_grown hg (fun i e => Or.inl (Option.some.inj e).symm))
  have SZ := Lib.hid (show n1 ≤ W.heap.size from h.kp.size)
  have HST := Lib.hid hst
  have KW := Lib.hid h.kp
  have hbsz : W.heap.size ≤ (W.setCell ⟨g, 265, none⟩ (.int .i64 (r1 : Int))).heap.size := hg.size
  have HC := Lib.hid (dreach_any st.pl r1 hrd1 W.heap.size SZ.out (.slice none 0 0) [] A n c xs hn hn2 hxs (W.setCell ⟨g, 265, none⟩ (.int .i64 (r1 : Int))) hbsz RN.out (OwnI.nil _ _) (fun W' hf => HST.out W' (F1.out.trans hf (fun i e => absurd e (own_none i)))))
  have hf0 : xs.foldl reachE [] = onceE xs := rfl
  rw [hf0] at HC
  have hc0 : closeL S E xs = riseE S (closeF E 2049 0 (onceE xs)) := rfl
  have hio : InN S (onceE xs) := in_once hxs
  clear hQ h h1 hg hst hn hfl hr1 hf0 RN hbsz
  go_enter Tryz.func56, Tryz.ntmps56
  go_wp2_with fail
  generalize W.setCell ⟨g, 265, none⟩ (.int .i64 (r1 : Int)) = Wa at *
  clear c9 z9 e1
  refine HC.out.mono ?_
  rintro x W2 ⟨v1, rfl, ⟨ho1, rn1⟩, fr1, new1⟩
  have O1 := Lib.hid ho1
  have R1 := Lib.hid rn1
  have F2 := Lib.hid (show Fr g gr (.slice none 0 0) W W2 from F1.out.trans fr1 (fun i e => absurd e (own_none i)))
  rw [hc0] at HQ
  generalize onceE xs = l1 at *
  obtain ⟨R, hR⟩ : ∃ R, closeF E 2049 0 l1 = R := ⟨_, rfl⟩
  rw [hR] at HQ
  have HR := Lib.hid hR
  clear ho1 rn1 fr1 new1 HC hc0 hR hio F1 HST
  go_wp2_with fail
  go_loopw [5, 6] (fun vl vi wr => ∃ (i fl : Nat) (lst : List Nat), vi = .int .i64 (i : Int) ∧ i + fl = 2049 ∧ i ≤ lst.length ∧ Hid (OwnI wr W.heap.size vl lst) ∧ Hid (Rnd W0 W1 n1 g gm gr S cl m r1 lst wr) ∧ Hid (closeF E fl i lst = R) ∧ Hid (Fr g gr (.slice none 0 0) W wr)) (fun _ vi _ => 2049 - (intOf vi).toNat)
  case atStart => exact ⟨0, 2049, l1, rfl, rfl, Nat.zero_le _, O1.out, R1.out, HR.out, F2.out⟩
  case round =>
    obtain ⟨i, fl, lst, rfl, hfl, hil, OW, RN, HCF, FR⟩ := hrel
    have HFL := Lib.hid hfl
    clear O1 R1 HR F2
    obtain ⟨f0, hmk, hnow, hnd, hin⟩ := RN.out
    have hlen : lst.length ≤ 2048 := Nat.le_trans (len_le hnd hin) st.pl.s2
    have HVB := Lib.hid (fun i (e : u5.ownBlock = some i) => (World.ownsRow.lt OW.out i e).1)
    have KR := Lib.hid hmk.kp
    have c3 := hmk.c3
    rw [hm] at c3
    obtain ⟨A3, n3, c3', rfl, HL3, hnc3, hcm3, hrz⟩ := OW.out.form
    have hn3 : n3 ≤ 2048 := by have := HL3.out; omega
    have HIN := Lib.hid hin
    clear hfl hnow hnd hmk hin
    by_cases hlt : i < n3
    · have hkl : i < lst.length := by have := HL3.out; omega
      obtain ⟨ad, hA, hc1⟩ := hrz i hkl
      subst hA
      have hsx : lst[i] < S := HIN.out _ (List.getElem_mem hkl)
      obtain ⟨f2, rfl⟩ : ∃ f, fl = f + 1 := ⟨fl - 1, by have := HFL.out; omega⟩
      have TK := Lib.hid (show closeF E (f2 + 1) i lst = closeF E f2 (i + 1) (followE E (fun e => e.free) lst lst[i]) by rw [closeF, dif_pos hkl])
      have hpl := (pre_follow E (fun e => e.free) lst lst[i]).length_le
      generalize lst[i] = s at *
      have cfr := (st.fre wr KR.out s hsx).1
      have hfll := Nat.le_trans (frees_len E s) st.e2
      have RNd : Rnd W0 W1 n1 g gm gr S cl m r1 lst wr.drew := by
        obtain ⟨q, h1, h2, h3, h4⟩ := RN.out
        exact ⟨q, h1.drew, h2, h3, h4⟩
      have HCON := Lib.hid (dreach_any st.pl r1 hrd1 W.heap.size SZ.out _ lst (Af s) (freesD E s).length (cf s) (freesD E s) rfl (by omega) (frees_in st.ed s) wr.drew FR.out.size RNd (show OwnI wr.drew W.heap.size _ lst from OW.out) (fun W' hf => (st.fre W' (KR.out.fr (show Fr g gr _ wr W' from ⟨hf.size, hf.keep⟩) (fun i e => Nat.le_trans SZ.out (HVB.out i e))) s hsx).2))
      rw [← follow_list] at HCON
      generalize hfn : (freesD E s).length = fn at *
      have HFN := Lib.hid hfn
      have hi9 : i ≤ 2048 := by omega
      have HPL := Lib.hid hpl
      have HIL := Lib.hid (show i + 1 ≤ lst.length by omega)
      clear hkl hrz hcm3 RN RNd hpl hil hlen hfll hfn
      go_wp2_with fail
      have CFR := Lib.hid cfr
      refine wp_region_held_drew (S := fun W' => W'.cell? ⟨g, 259, none⟩ = some (.slice (some ⟨gf, 0, none⟩) S S) ∧ W'.cell? ⟨gf, s, none⟩ = some (.slice (Af s) fn (cf s))) (by kernel_rfl) ⟨c3, cfr⟩ (fun hHeld => ?_)
      have hcd : wr.drew.cell? (ad.add i) = some (.int .i64 (s : Int)) := hc1
      clear c3 cfr hc1
      try simp only [zzA, zzB, zzC, Act.put, zzD, zzE, zzF]
      refine wpAnyH_take (i := 0) (v := ?vza0) rfl (by kernel_rfl) (by kernel_rfl) (by kernel_rfl) (fun _ _ _ h => h) (Or.inl ⟨by rfl, ?yza0⟩) hHeld ?rza0
      case yza0 => (intro wS hSw; clear hSw; go_simp; try (with_reducible rfl))
      try simp only [zzA, zzB, zzC, Act.put, zzD, zzE, zzF]
      refine wpAnyH_take (i := 1) (v := ?vza1) rfl (by kernel_rfl) (by kernel_rfl) (by kernel_rfl) (fun _ _ _ h => h) (Or.inl ⟨by rfl, ?yza1⟩) hHeld ?rza1
      case yza1 => (intro wS hSw; clear hSw; go_simp; try (with_reducible rfl))
      try simp only [zzA, zzB, zzC, Act.put, zzD, zzE, zzF]
      refine wpAnyH_take (i := 2) (v := ?vza2) rfl (by kernel_rfl) (by kernel_rfl) (by kernel_rfl) (fun _ _ _ h => h) (Or.inl ⟨by rfl, ?yza2⟩) hHeld ?rza2
      case yza2 => (intro wS hSw; clear hSw; go_simp; try (with_reducible rfl))
      try simp only [zzA, zzB, zzC, Act.put, zzD, zzE, zzF]
      refine wpAnyH_take (i := 3) (v := ?vza3) rfl (by kernel_rfl) (by kernel_rfl) (by kernel_rfl) (fun _ _ _ h => h) (Or.inl ⟨by rfl, ?yza3⟩) hHeld ?rza3
      case yza3 => (intro wS hSw; clear hSw; go_simp; try (with_reducible rfl))
      try simp only [zzA, zzB, zzC, Act.put, zzD, zzE, zzF]
      refine wpAnyH_take (i := 4) (v := ?vza4) rfl (by kernel_rfl) (by kernel_rfl) (by kernel_rfl) (fun _ _ _ h => h) (Or.inl ⟨by rfl, ?yza4⟩) hHeld ?rza4
      case yza4 => (intro wS hSw; clear hSw; go_simp; try (with_reducible rfl))
      try simp only [zzA, zzB, zzC, Act.put, zzD, zzE, zzF]
      refine wpAnyH_take (i := 5) (v := ?vza5) rfl (by kernel_rfl) (by kernel_rfl) (by kernel_rfl) (fun _ _ _ h => h) (Or.inl ⟨by rfl, ?yza5⟩) hHeld ?rza5
      case yza5 => (intro wS hSw; have q := hSw.1; clear hSw; go_simp; try (with_reducible rfl))
      try simp only [zzA, zzB, zzC, Act.put, zzD, zzE, zzF]
      refine wpAnyH_take (i := 6) (v := ?vza6) rfl (by kernel_rfl) (by kernel_rfl) (by kernel_rfl) (fun _ _ _ h => h) (Or.inl ⟨by rfl, ?yza6⟩) hHeld ?rza6
      case yza6 => (intro wS hSw; clear hSw; go_simp; try (with_reducible rfl))
      try simp only [zzA, zzB, zzC, Act.put, zzD, zzE, zzF]
      refine wpAnyH_take (i := 7) (v := ?vza7) rfl (by kernel_rfl) (by kernel_rfl) (by kernel_rfl) (fun _ _ _ h => h) (Or.inl ⟨by rfl, ?yza7⟩) hHeld ?rza7
      case yza7 => (intro wS hSw; clear hSw; go_simp; try (with_reducible rfl))
      try simp only [zzA, zzB, zzC, Act.put, zzD, zzE, zzF]
      refine wpAnyH_take (i := 8) (v := ?vza8) rfl (by kernel_rfl) (by kernel_rfl) (by kernel_rfl) (fun _ _ _ h => h) (Or.inl ⟨by rfl, ?yza8⟩) hHeld ?rza8
      case yza8 => (intro wS hSw; clear hSw; go_simp; try (with_reducible rfl))
      try simp only [zzA, zzB, zzC, Act.put, zzD, zzE, zzF]
      refine wpAnyH_ready (rs := [9]) (by kernel_rfl) (by simp) (AllReadyH.cons rfl (fun K hK => ?_) AllReadyH.nil)
      go_simp
      refine hK.out _ _ hHeld (fun hHeld => ?_)
      clear hK K hcd
      try simp only [zzA, zzB, zzC, Act.put, zzD, zzE, zzF]
      refine wpAnyH_take (i := 10) (v := ?vzb10) rfl (by kernel_rfl) (by kernel_rfl) (by kernel_rfl) (fun _ _ _ h => h) (Or.inl ⟨by rfl, ?yzb10⟩) hHeld ?rzb10
      case yzb10 => (intro wS hSw; clear hSw; go_simp; try (with_reducible rfl))
      try simp only [zzA, zzB, zzC, Act.put, zzD, zzE, zzF]
      refine wpAnyH_take (i := 11) (v := ?vzb11) rfl (by kernel_rfl) (by kernel_rfl) (by kernel_rfl) (fun _ _ _ h => h) (Or.inl ⟨by rfl, ?yzb11⟩) hHeld ?rzb11
      case yzb11 => (intro wS hSw; have q := hSw.2; clear hSw; go_simp; try (with_reducible rfl))
      try simp only [zzA, zzB, zzC, Act.put, zzD, zzE, zzF]
      refine wpAnyH_ready (rs := [12]) (by kernel_rfl) (by simp) (AllReadyH.cons rfl (fun K hK => ?_) AllReadyH.nil)
      go_simp
      go_at_call 88
      refine HCON.out.mono ?_
      rintro x w2 ⟨v2, rfl, ⟨ho2, rn2⟩, fr2, new2⟩
      have O2 := Lib.hid ho2
      have R2 := Lib.hid rn2
      have F3 := Lib.hid (show Fr g gr (.slice none 0 0) W w2 from FR.out.trans (show Fr g gr _ wr w2 from ⟨fr2.size, fr2.keep⟩) (fun i e => Or.inr (HVB.out i e)))
      have hS1 : w2.cell? ⟨g, 259, none⟩ = some (.slice (some ⟨gf, 0, none⟩) S S) ∧ w2.cell? ⟨gf, s, none⟩ = some (.slice (Af s) fn (cf s)) := by
        obtain ⟨q, h1, _⟩ := rn2
        have h2 := h1.c3
        rw [hm] at h2
        exact ⟨h2, by rw [← HFN.out]; exact (st.fre w2 h1.kp s hsx).1⟩
      clear ho2 rn2 fr2 new2 HCON FR hHeld
      go_wp2_with fail
      refine hK.out _ _ hS1 (fun hHeld => ?_)
      clear hK K hS1
      try simp only [zzA, zzB, zzC, Act.put, zzD, zzE, zzF]
      refine wpAnyH_take (i := 13) (v := ?vzc13) rfl (by kernel_rfl) (by kernel_rfl) (by kernel_rfl) (fun _ _ _ h => h) (Or.inl ⟨by rfl, ?yzc13⟩) hHeld ?rzc13
      case yzc13 => (intro wS hSw; clear hSw; go_simp; try (with_reducible rfl))
      try simp only [zzA, zzB, zzC, Act.put, zzD, zzE, zzF]
      refine wpAnyH_done (by kernel_rfl) ?_ _
      go_wp2_with fail
      refine ⟨⟨i + 1, f2, _, by go_num, by have := HFL.out; omega, by have := HPL.out; have := HIL.out; omega, O2.out, R2.out, ?_, F3.out⟩, by simp [intOf]; omega⟩
      unfold Hid
      rw [← TK.out]
      exact HCF.out
    · have hR2 : R = lst := by
        have := HCF.out
        cases fl with
        | zero => have := HFL.out; have := HL3.out; omega
        | succ f2 => rw [closeF, dif_neg (by have := HL3.out; omega)] at this; exact this.symm
      have HR2 := Lib.hid hR2
      have HSO := Lib.hid (sort_own W.heap.size S lst _ (by obtain ⟨_, _, _, h, _⟩ := RN.out; exact h) HIN.out (by omega) wr OW.out)
      clear hR2 hrz hcm3 hlen hil c3
      go_wp2_with fail
      refine HSO.out.mono ?_
      rintro x w9 ⟨rfl, ho9, hg9⟩
      have O9 := Lib.hid ho9
      have F9 := Lib.hid (show Fr g gr (.slice none 0 0) W w9 from FR.out.trans (Fr.of_grown (g := g) (gm := gr) (v := .slice A3 n3 c3') hg9 (fun i e => Or.inr (Or.inr e))) (fun i e => Or.inr (HVB.out i e)))
      have M9 := Lib.hid (show ∃ f, MkR W0 W1 n1 g gm gr S cl m r1 f w9 ∧ ∀ s, s < S → f s ≤ r1 from by
        obtain ⟨f, hmk, hnow, _⟩ := RN.out
        exact ⟨f, hmk.grown st.pl hg9 (fun i e => Nat.le_trans SZ.out (HVB.out i e)), fun s hs => (hnow s hs).1⟩)
      clear ho9 hg9 HSO
      go_wp2_with fail
      refine post_is HQ ?_
      rw [HR2.out]
      exact ⟨_, rfl, O9.out, M9.out, F9.out⟩

end Go.Proofs.YtcgfogdfcdndgaaGreatDoor
