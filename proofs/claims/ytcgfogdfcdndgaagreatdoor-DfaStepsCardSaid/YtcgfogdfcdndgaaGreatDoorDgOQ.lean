/- The maker of machines: Of. -/
import Derived.Test.YtcgfogdfcdndgaaGreatDoorDgNQ
set_option linter.unusedVariables false
set_option linter.unusedSimpArgs false
namespace Go.Proofs.YtcgfogdfcdndgaaGreatDoor
open Go.RowKit Go.Shelf
attribute [local go_sem] Oper.semAt_some

section
variable {W0 W1 W W' : World} {n1 g gm gr S : Nat} {cl : Nat → Int} {X : List Int} {ex0 : Nat → Prop} {m : Mv} {rd rd' : Nat} {FM FF FR : List (List Nat)} {T : List (List Int)}
/-- Next gets one row more. -/
theorem MkW.nexted (h : MkW W0 W1 n1 g gm gr S cl X ex0 m rd FM FF FR T W) (pl : Pl W0 n1 g gm gr S) {v' : Value} {x : List Int} (hg : W.grownBy W' m.nx.ownBlock) (ho : RowsZ W' n1 v' (T ++ [x]) (fun i => m.ru.ownBlock = some i ∨ ex0 i))
    (hat : v'.ownBlock = m.nx.ownBlock ∨ v'.ownBlock = some W.heap.size) : MkW W0 W1 n1 g gm gr S cl X ex0 { m with nx := v' } rd FM FF FR (T ++ [x]) (W'.setCell ⟨g, 256, none⟩ v') := by
  obtain ⟨f, hm, hf⟩ := h.mr
  have hug := pl.ug
  have hum := pl.um
  have hs := hm.kp.size
  have hm2 := hm.grown pl hg (fun i e => (h.nx.own i e).1)
  have hmp := h.map.grown hg (fun e => by have := (h.nx.own gm e.symm).1; omega)
  have ob : ∀ i, m.nx.ownBlock ≠ some i → n1 ≤ i → i < W.heap.size → (W'.setCell ⟨g, 256, none⟩ v').heap[i]? = W.heap[i]? := fun i hne h1 h2 => (set_keep _ _ _ _ i (by omega)).trans (hg.block i h2 (fun e => hne e.symm))
  have tne : ∀ (i : Nat) (cs : Array Value), W.heap[i]? = some (.cells cs 3 (0, 0)) → m.nx.ownBlock ≠ some i := fun i cs hc hv => by
    obtain ⟨vals, a1, _⟩ := h.nx
    rcases a1.2 with ⟨e, _⟩ | ⟨g', cap, cur, e, _, hgb, _⟩
    · rw [e] at hv
      exact own_none i hv
    · rw [e] at hv
      obtain rfl : g' = i := Option.some.inj hv
      rw [hgb] at hc
      injection hc with hc
      injection hc with _ hc _
      exact absurd hc (by decide)
  refine ⟨⟨f, hm2.put pl 0 v' { m with nx := v' } rd rfl, hf⟩, hmp.keep (set_keep _ _ _ _ gm (fun e => pl.gm_ne e.symm)), ?_, ?_, ?_, ?_⟩
  · exact h.fo.keep (fun i hi => ob i (fun e => h.ap i hi e) (h.fo.own i hi).1 (h.fo.own i hi).2) (fun i cs h1 h2 _ hc => ob i (tne i cs hc) h1 h2)
  · refine owns_keep h.ru (fun i hi => ob i ?_ (OwnZ.own h.ru i hi).1 (OwnZ.own h.ru i hi).2)
    rcases (show W.ownsRow n1 3 1 m.ru _ _ from h.ru).2 with ⟨e, _⟩ | ⟨g', cap, cur, e, _, hgb, _⟩
    · have hi2 : m.ru.ownBlock = some i := hi
      rw [e] at hi2
      exact absurd hi2 (own_none i)
    · have hi2 : m.ru.ownBlock = some i := hi
      rw [e] at hi2
      obtain rfl : g' = i := Option.some.inj hi2
      exact tne _ _ hgb
  · exact ho.set hug 256 v'
  · intro i hi e
    have hi2 : m.fo.ownBlock = some i := hi
    have e2 : v'.ownBlock = some i := e
    rcases hat with h1 | h1
    · exact h.ap i hi2 (h1.symm.trans e2)
    · have h3 : some W.heap.size = some i := h1.symm.trans e2
      have := Option.some.inj h3
      have := (h.fo.own i hi2).2
      omega
end
def dz : Array Value := mkT (fun _ => 0) [.slice none 0 0, .slice none 0 0]
set_option maxRecDepth 20000 in
theorem zeroD (w : World) : (zeroValue 33).run Tryz.prog w = .ok (.agg dz) w := by kernel_rfl
theorem aggD (w : World) : (isAgg 33).run Tryz.prog w = .ok true w := by kernel_rfl
theorem szD (w : World) : (sizeOf 33).run Tryz.prog w = .ok 258 w := by kernel_rfl
theorem dz_size : dz.size = 258 := by unfold dz; rw [mkT_size]; rfl
theorem own_slice {w : World} {base s n : Nat} {e : TypeId} {v : Value} {xs : List Value} (h : w.ownsRow base e s v n xs) : ∃ A m c, v = .slice A m c := by
  rcases h.2 with ⟨e, _⟩ | ⟨g, cap, cur, e, _⟩
  · exact ⟨_, _, _, e⟩
  · exact ⟨_, _, _, e⟩
theorem mkT_head (cl : Nat → Int) (a b : Value) (t : List Value) (j : Nat) (u : Value) (h : (mkT cl [a, b]).toList[j]? = some u) : (mkT cl (a :: b :: t))[j]? = some u := by
  unfold mkT at h ⊢
  rw [List.toList_toArray] at h
  rw [List.getElem?_toArray]
  have hj : j < 258 := by
    have := (List.getElem?_eq_some_iff.1 h).1
    simpa using this
  by_cases hj2 : j < 256
  · rw [List.getElem?_append_left (by simpa using hj2)] at h ⊢
    exact h
  · rw [List.getElem?_append_right (by simp; omega)] at h ⊢
    simp only [List.length_map, List.length_range] at h ⊢
    match hq : j - 256, h with
    | 0, h => exact h
    | 1, h => exact h
    | q + 2, h => omega
theorem mkT_one (cl : Nat → Int) (A B : Option Addr) (m c n d : Nat) : (mkT cl [.slice A m c, .slice B n d]).all (·.oneCell') = true := by
  unfold mkT
  simp [Value.oneCell']
theorem sizeD : (Tryz.prog.info? 33).map (·.size) = some 258 := by kernel_rfl
/-- What Of answers: a machine, or that it is too great. -/
def GotDm (W : World) (S : Nat) (E : List Ed) (X : List Int) (e : Ending) (W' : World) : Prop := Below W.heap.size W W' ∧
  ((foundD S E = none ∧ e = .returned (.tuple #[.agg dz, .int .i64 5])) ∨
   ∃ F n1 vT vR ex, foundD S E = some F ∧ e = .returned (.tuple #[.agg (mkT (fun c => (classE E c : Int)) [vT, vR]), .int .i64 0]) ∧ W.heap.size ≤ n1 ∧ RowsZ W' n1 vT (tabD S E F) ex ∧ OwnZ W' n1 vR (rulesD F X) ∧ ∀ i, vR.ownBlock = some i → ex i)
theorem res_dfa {fn : Func} (h : fn.results = #[.cell 2 33, .tmp 3]) (tmps : Array Value) (w : World) (b : Nat) (dv : Array Value) (x : Value) (h2 : tmps.getD 2 undef = .pointer (some ⟨b, 0, none⟩)) (h3 : tmps.getD 3 undef = x) (hb : w.heap[b]? = some (.cells dv 33 (0, 0))) (hs : dv.size = 258) :
    (results fn tmps).run Tryz.prog w = .ok (.tuple #[.agg dv, x]) w := by
  rw [results_cell_tmp h, h2, h3]
  have hl := run_loadVar_row (P := Tryz.prog) w b 33 33 dv (0, 0) _ hb Tryz.underlying33 rfl (by rw [sizeD, hs])
  simp [asAddr, hl, Result.andThen]
theorem rdz_zl {w : World} {A : Option Addr} {l : List Nat} (h : RdW w A (zl l)) : RdZ w A l := fun i hi => by
  obtain ⟨ad, e, hc⟩ := h i (by unfold zl; rwa [List.length_map])
  refine ⟨ad, e, ?_⟩
  rw [hc, show (zl l)[i]'(by unfold zl; rwa [List.length_map]) = ((l[i] : Nat) : Int) from List.getElem_map (fun n : Nat => (n : Int))]
theorem build_dz (w : World) : (Instr.build 33 #[]).run Tryz.prog w = .ok (.agg dz) w := by kernel_rfl
theorem dz_one : dz.all (·.oneCell') = true := mkT_one _ _ _ _ _ _ _
theorem rowD_le (S : Nat) (E : List Ed) (l : List Nat) : ∀ (cs : List Nat) (F : List (List Nat)), (rowD S E l F cs).length ≤ F.length + cs.length
  | [], F => Nat.le_refl _
  | c :: cs, F => by
    have h := rowD_le S E l cs (putD F (toD S E c l))
    have h2 := put_len F (toD S E c l)
    have e : rowD S E l F (c :: cs) = rowD S E l (putD F (toD S E c l)) cs := rfl
    rw [e, List.length_cons]
    omega

set_option maxRecDepth 100000 in
set_option maxHeartbeats 8000000 in
theorem of_good (S : Nat) (E : List Ed) (X : List Int) (Ae Ax : Option Addr) (ne ce nx cx : Nat) (hne : E.length = ne) (hnx : X.length = nx) (hce : ne ≤ ce) (hcx : nx ≤ cx) (hchk : checkN (S : Int) E X = 0) (hs1 : 1 ≤ S) (hs2 : S ≤ 2048) (hed : EdN S E) (hne2 : ne ≤ 8192) (hnx2 : nx ≤ 64) (W : World) (hr : RdE W Ae E) (hx : RdW W Ax X) (hT : Tab W)
    (hmk : ∀ W', Below W.heap.size W W' → Calls Tryz.prog 29 #[.agg #[.int .i64 (S : Int), .slice Ae ne ce, .slice Ax nx cx]] W' (GotMk W' S E X Ax nx cx)) :
    Calls Tryz.prog 13 #[.agg #[.int .i64 (S : Int), .slice Ae ne ce, .slice Ax nx cx]] W (GotDm W S E X) := by
  generalize hQ : GotDm W S E X = R
  have HQ := Lib.hid hQ
  clear hQ
  have hz := zeroD
  have HR := Lib.hid hr
  have HX := Lib.hid hx
  have HT := Lib.hid hT
  have HMK := Lib.hid hmk
  have HCHK := Lib.hid hchk
  clear hr hx hT hmk hchk
  go_enter Tryz.func13, Tryz.ntmps13
  go_wp2_with fail
  have b1 := bl_alloc (bl_alloc (Below.refl W.heap.size W) (.cells #[.int .i64 (S : Int), .slice Ae ne ce, .slice Ax nx cx] 25)) (.cells dz 33)
  have k1 : ((W.alloc (.cells #[.int .i64 (S : Int), .slice Ae ne ce, .slice Ax nx cx] 25)).alloc (.cells dz 33)).heap[W.heap.size + 1]? = some (.cells dz 33 (0, 0)) := by
    have h := heap_alloc_new (W.alloc (.cells #[.int .i64 (S : Int), .slice Ae ne ce, .slice Ax nx cx] 25)) (.cells dz 33)
    rwa [World.size_alloc] at h
  have k0 : ((W.alloc (.cells #[.int .i64 (S : Int), .slice Ae ne ce, .slice Ax nx cx] 25)).alloc (.cells dz 33)).heap[W.heap.size]? = some (.cells #[.int .i64 (S : Int), .slice Ae ne ce, .slice Ax nx cx] 25 (0, 0)) := by
    rw [Below.heap_alloc _ _ _ (by simp)]
    exact heap_alloc_new W _
  generalize (W.alloc (.cells #[.int .i64 (S : Int), .slice Ae ne ce, .slice Ax nx cx] 25)).alloc (.cells dz 33) = wA at *
  refine (ncheck_any (S : Int) E X Ae Ax ne ce nx cx hne hnx hce hcx (by omega) (by omega) wA (HR.out.below b1) (HX.out.below b1)).mono ?_
  rw [HCHK.out]
  rintro e w2 ⟨rfl, hb2⟩
  have B2 := Lib.hid (bl_trans b1 hb2)
  have h0 : w2.heap[W.heap.size]? = _ := (hb2.block W.heap.size (Array.getElem?_eq_some_iff.1 k0).1).trans k0
  have h1 : w2.heap[W.heap.size + 1]? = _ := (hb2.block (W.heap.size + 1) (Array.getElem?_eq_some_iff.1 k1).1).trans k1
  have hn2 : W.heap.size + 1 < w2.heap.size := (Array.getElem?_eq_some_iff.1 h1).1
  have c0 : w2.cell? ⟨W.heap.size, 0, none⟩ = some (.int .i64 (S : Int)) := cell_of_row w2 W.heap.size 0 _ _ _ h0
  have c1 : w2.cell? ⟨W.heap.size, 1, none⟩ = some (.slice Ae ne ce) := cell_of_row w2 W.heap.size 1 _ _ _ h0
  have c2 : w2.cell? ⟨W.heap.size, 2, none⟩ = some (.slice Ax nx cx) := cell_of_row w2 W.heap.size 2 _ _ _ h0
  have K1 := Lib.hid h1
  clear b1 hb2 k0 k1 h0 h1
  go_wp2_with fail
  clear c0 c1 c2
  refine (HMK.out w2 B2.out).mono ?_
  rintro e w3 ⟨n1, g, gm, gr, gf, ge, Af, Ae', cf, ce', Al, nl, cls, rfl, st, hnl, hLb, hM⟩
  have PL := Lib.hid st.pl
  have ug := st.pl.ug
  have um := st.pl.um
  have ur := st.pl.ur
  have lg := st.pl.lg
  obtain ⟨f0, hm0, _⟩ := hM.mr
  have s3 := hm0.kp.size
  have bL := bl_alloc (Below.refl w3.heap.size w3) (.cells #[.int .i64 0] 3)
  have kL := heap_alloc_new w3 (.cells #[.int .i64 0] 3)
  have HM1 := Lib.hid (hM.below st.pl bL)
  have HLB := Lib.hid hLb
  have HNL := Lib.hid hnl
  have hX2 := Lib.hid (HX.out.below B2.out)
  clear hM hm0 hLb
  have sL : (w3.alloc (.cells #[.int .i64 0] 3)).heap.size = w3.heap.size + 1 := World.size_alloc _ _
  have HC0 := Lib.hid (state_any (W0 := w2) (W1 := w3) (cl := fun c => (classE E c : Int)) (X := X) (ex0 := fun _ => False) (vT := .slice none 0 0) (vR := .slice none 0 0) (vX := .slice Ax nx cx) (ved := .slice (some ⟨ge, 0, none⟩) S S) (vls := .slice Al nl cls) (vF := .slice none 0 0) st rfl Ax nx cx rfl hnx hnx2 hX2.out 0 (by omega) [] [] (by simp) (by simp) (some ⟨w3.heap.size, 0, none⟩) 1 1 [0] rfl (by omega) (fun x hx => by
    rw [List.mem_singleton] at hx
    omega) _ HM1.out (fun W' hf i hi => ⟨_, rfl, by
    have hi0 : i = 0 := by simpa using hi
    subst hi0
    exact cell_of_row W' w3.heap.size 0 _ _ _ ((hf.keep w3.heap.size (by omega) (by omega) (by omega) (fun e => own_none _ e)).trans kL)⟩) (fun i h => h.elim))
  go_wp2_with fail
  refine HC0.out.mono ?_
  rintro e w4 ⟨vF0, vR0, rfl, hM4, _, _, _⟩
  have h0c := close_zero hed hs1 hs2
  have HZ := Lib.hid h0c
  have hput : putD [] (closeL S E [0]) = foD S E 0 := by
    unfold putD foD stgD
    rw [if_neg (by simp [h0c])]
    rfl
  rw [hput] at hM4
  have HM4 := Lib.hid (show MkW w2 w3 n1 g gm gr S (fun c => (classE E c : Int)) X (fun _ => False) ⟨.slice none 0 0, vR0, .slice Ax nx cx, .slice (some ⟨gf, 0, none⟩) S S, .slice (some ⟨ge, 0, none⟩) S S, .slice Al nl cls, vF0⟩ 1 (foD S E 0) (foD S E 0) (foD S E 0) (rowsD S E 0) w4 from hM4)
  clear hM4 hput HC0 HM1 bL kL sL h0c
  go_wp2_with fail
  go_loopw [6] (fun vi wr => ∃ (s rd : Nat) (vT vR vF : Value), vi = .int .i64 (s : Int) ∧ s ≤ (foD S E s).length ∧ rd ≤ 1 + 256 * s ∧ Hid (okD S E s) ∧ Hid (MkW w2 w3 n1 g gm gr S (fun c => (classE E c : Int)) X (fun _ => False) ⟨vT, vR, .slice Ax nx cx, .slice (some ⟨gf, 0, none⟩) S S, .slice (some ⟨ge, 0, none⟩) S S, .slice Al nl cls, vF⟩ rd (foD S E s) (foD S E s) (foD S E s) (rowsD S E s) wr)) (fun vi _ => 600 - (intOf vi).toNat)
  case atStart => exact ⟨0, 1, _, _, _, rfl, Nat.zero_le _, by omega, ok_zero S E, HM4.out⟩
  case round =>
    obtain ⟨s, rd, vT, vR, vF, rfl, hs, hrd, OKs, Ms⟩ := hrel
    clear HM4
    have hl5 := ok_len OKs.out
    obtain ⟨fs, hms, _⟩ := Ms.out.mr
    obtain ⟨A, n, c, e, hfn⟩ := Ms.out.fo.form
    have e : vF = .slice A n c := e
    rw [List.length_map] at hfn
    have hfn2 : (foD S E s).length = n := hfn.out
    subst e
    have c6 := hms.c6
    have hb1 : wr.heap[W.heap.size + 1]? = some (.cells dz 33 (0, 0)) := (hms.low.block (W.heap.size + 1) (by omega)).trans K1.out
    have HB1 := Lib.hid hb1
    have HFN := Lib.hid hfn2
    have hn5 : n ≤ 512 := by omega
    have hsn : s ≤ n := by omega
    clear hms hfn hfn2 hb1 hl5 hs
    by_cases hlt : s < n
    · go_wp2_with fail
      have hsl : s < (foD S E s).length := by rw [HFN.out]; exact hlt
      have hs9 : s + 1 ≤ (foD S E (s + 1)).length := by
        rw [fo_next S E hsl]
        have := (row_pre S E (foD S E s)[s] (leastsE E) (foD S E s)).length_le
        omega
      have HS9 := Lib.hid hs9
      clear hs9
      obtain ⟨A', n', c', adr, Bs, ms, ds, e1, e2, e3, hcs, hms1, hms2, hms3, hrs, _⟩ := Ms.out.fo.row (i := s) (by rw [List.length_map]; exact hsl)
      have e1 : Value.slice A n c = .slice A' n' c' := e1
      injection e1 with e1 _ _
      subst e1
      subst e2
      have hms1 : (foD S E s)[s].length = ms := by rw [← hms1, List.getElem_map]; unfold zl; rw [List.length_map]
      have hml : ms ≤ 2048 := by
        have hg := good_fo S E s _ (List.getElem_mem hsl)
        rw [← hms1]
        exact Nat.le_trans (len_le (hg.2.imp (fun h => by omega)) hg.1) hs2
      have hrs2 : RdW wr Bs (zl (foD S E s)[s]) := by rwa [List.getElem_map] at hrs
      have hHeld : True := trivial
      refine wp_region_held_drew (S := fun _ => True) (by kernel_rfl) trivial (fun _ => ?_)
      have M0 := Lib.hid Ms.out.drew
      have HCL := Lib.hid (show wr.drew.cell? (adr.add s) = some (.slice Bs ms ds) from hcs)
      have HRS := Lib.hid (show RdZ wr.drew Bs (foD S E s)[s] from rdz_zl (hrs2.below (bl_drewN (Below.refl wr.heap.size wr) 1)))
      clear hrs hrs2 hcs Ms HB1 c6
      generalize wr.drew = Y0 at *
      try simp only [zzA, zzB, zzC, Act.put, zzD, zzE, zzF]
      refine wpAnyH_take (i := 0) (v := ?vza0) rfl (by kernel_rfl) (by kernel_rfl) (by kernel_rfl) (fun _ _ _ h => h) (Or.inl ⟨by rfl, ?yza0⟩) hHeld ?rza0
      case yza0 => (intro wS hSw; clear hSw; go_simp; try (with_reducible rfl))
      try simp only [zzA, zzB, zzC, Act.put, zzD, zzE, zzF]
      refine wpAnyH_take (i := 1) (v := ?vza1) rfl (by kernel_rfl) (by kernel_rfl) (by kernel_rfl) (fun _ _ _ h => h) (Or.inl ⟨by rfl, ?yza1⟩) hHeld ?rza1
      case yza1 => (intro wS hSw; clear hSw; go_simp; try (with_reducible rfl))
      try simp only [zzA, zzB, zzC, Act.put, zzD, zzE, zzF]
      refine wpAnyH_take (i := 2) (v := ?vza2) rfl (by kernel_rfl) (by kernel_rfl) (by kernel_rfl) (fun _ _ _ h => h) (Or.inl ⟨by rfl, ?yza2⟩) hHeld ?rza2
      case yza2 => (intro wS hSw; clear hSw; go_simp; try (with_reducible rfl))
      try simp only [zzA, zzB, zzC, Act.put, zzD, zzE, zzF]
      refine wpAnyH_take (i := 3) (v := ?vza3) rfl (by kernel_rfl) (by kernel_rfl) (by kernel_rfl) (fun _ _ _ h => h) (Or.inl ⟨by rfl, ?yza3⟩) hHeld ?rza3
      case yza3 => (intro wS hSw; clear hSw; go_simp; try (with_reducible rfl))
      try simp only [zzA, zzB, zzC, Act.put, zzD, zzE, zzF]
      refine wpAnyH_take (i := 4) (v := ?vza4) rfl (by kernel_rfl) (by kernel_rfl) (by kernel_rfl) (fun _ _ _ h => h) (Or.inl ⟨by rfl, ?yza4⟩) hHeld ?rza4
      case yza4 => (intro wS hSw; clear hSw; go_simp; try (with_reducible rfl))
      try simp only [zzA, zzB, zzC, Act.put, zzD, zzE, zzF]
      refine wpAnyH_take (i := 6) (v := ?vza6) rfl (by kernel_rfl) (by kernel_rfl) (by kernel_rfl) (fun _ _ _ h => h) (Or.inl ⟨by rfl, ?yza6⟩) hHeld ?rza6
      case yza6 => (intro wS hSw; clear hSw; go_simp; try (with_reducible rfl))
      try simp only [zzA, zzB, zzC, Act.put, zzD, zzE, zzF]
      refine wpAnyH_take (i := 7) (v := ?vza7) rfl (by kernel_rfl) (by kernel_rfl) (by kernel_rfl) (fun _ _ _ h => h) (Or.inl ⟨by rfl, ?yza7⟩) hHeld ?rza7
      case yza7 => (intro wS hSw; clear hSw; go_simp; try (with_reducible rfl))
      try simp only [zzA, zzB, zzC, Act.put, zzD, zzE, zzF]
      refine wpAnyH_take (i := 8) (v := ?vza8) rfl (by kernel_rfl) (by kernel_rfl) (by kernel_rfl) (fun _ _ _ h => h) (Or.inl ⟨by rfl, ?yza8⟩) hHeld ?rza8
      case yza8 => (intro wS hSw; clear hSw; go_simp; try (with_reducible rfl))
      try simp only [zzA, zzB, zzC, Act.put, zzD, zzE, zzF]
      refine wpAnyH_take (i := 9) (v := ?vza9) rfl (by kernel_rfl) (by kernel_rfl) (by kernel_rfl) (fun _ _ _ h => h) (Or.inl ⟨by rfl, ?yza9⟩) hHeld ?rza9
      case yza9 => (intro wS hSw; clear hSw; go_simp; try (with_reducible rfl))
      try simp only [zzA, zzB, zzC, Act.put, zzD, zzE, zzF]
      refine wpAnyH_take (i := 11) (v := ?vza11) rfl (by kernel_rfl) (by kernel_rfl) (by kernel_rfl) (fun _ _ _ h => h) (Or.inl ⟨by rfl, ?yza11⟩) hHeld ?rza11
      case yza11 => (intro wS hSw; clear hSw; go_simp; try (with_reducible rfl))
      try simp only [zzA, zzB, zzC, Act.put, zzD, zzE, zzF]
      refine wpAnyH_ready (rs := [5, 10]) (by kernel_rfl) (by simp) (AllReadyH.cons rfl (fun K hK => ?_) (AllReadyH.cons rfl (fun K hK => ?_) AllReadyH.nil))
      · skip
        obtain ⟨fz, hmz, _⟩ := M0.out.mr
        have hcl := hmz.c0
        clear hmz
        go_simp
        refine hK.out _ _ trivial (fun _ => ?_)
        clear hK K hcl
        try simp only [zzA, zzB, zzC, Act.put, zzD, zzE, zzF]
        refine wpAnyH_ready (rs := [10]) (by kernel_rfl) (by simp) (AllReadyH.cons rfl (fun K hK => ?_) AllReadyH.nil)
        obtain ⟨fz, hmz, _⟩ := M0.out.mr
        have hcl := hmz.c6
        clear hmz
        go_simp
        refine hK.out _ _ trivial (fun _ => ?_)
        clear hK K hcl
        try simp only [zzA, zzB, zzC, Act.put, zzD, zzE, zzF]
        refine wpAnyH_take (i := 12) (v := ?vzi012) rfl (by kernel_rfl) (by kernel_rfl) (by kernel_rfl) (fun _ _ _ h => h) (Or.inl ⟨by rfl, ?yzi012⟩) hHeld ?rzi012
        case yzi012 => (intro wS hSw; clear hSw; go_simp; try (with_reducible rfl))
        try simp only [zzA, zzB, zzC, Act.put, zzD, zzE, zzF]
        refine wpAnyH_ready (rs := [13]) (by kernel_rfl) (by simp) (AllReadyH.cons rfl (fun K hK => ?_) AllReadyH.nil)
        have hcl := HCL.out
        go_simp
        refine hK.out _ _ trivial (fun _ => ?_)
        clear hK K hcl
        try simp only [zzA, zzB, zzC, Act.put, zzD, zzE, zzF]
        refine wpAnyH_ready (rs := [14]) (by kernel_rfl) (by simp) (AllReadyH.cons rfl (fun K hK => ?_) AllReadyH.nil)
        rw [if_pos (by rfl)]
        go_simp
        have hrow := row_any (W0 := w2) (W1 := w3) (cl := fun c => (classE E c : Int)) (X := X) (vT := vT) (vR := vR) (vX := .slice Ax nx cx) (vF := .slice (some adr) n c) st rfl rfl Al cls nl rfl HNL.out HLB.out Ax nx cx rfl hnx hnx2 hX2.out rd (by omega) (foD S E s) (rowsD S E s) (by rw [HFN.out]; omega) (good_fo S E s) Bs ms ds (foD S E s)[s] hms1 (by omega) (good_fo S E s _ (List.getElem_mem hsl)).1 Y0 M0.out HRS.out
        rw [← fo_next S E hsl] at hrow
        go_at_call 31
        refine hrow.mono ?_
        rintro e Y1 ⟨vF', vR', q, nq, rfl, hzl, hrdq, hq1, hq2, hqr, hM'⟩
        clear hrow
        obtain ⟨fz, hmz, _⟩ := M0.out.mr
        have hsz := hmz.kp.size
        clear hmz
        have M1 := Lib.hid hM'
        have HZL := Lib.hid hzl
        have HRQ := Lib.hid hrdq
        have HQ2 := Lib.hid hq2
        have HQR := Lib.hid hqr
        have hq0 : n1 ≤ q := by omega
        clear hM' hzl hrdq hq2 hqr hq1
        refine hK.out _ _ trivial (fun _ => ?_)
        clear hK K M0
        try simp only [zzA, zzB, zzC, Act.put, zzD, zzE, zzF]
        refine wpAnyH_ready (rs := [15]) (by kernel_rfl) (by simp) (AllReadyH.cons rfl (fun K hK => ?_) AllReadyH.nil)
        have bL := bl_alloc (Below.refl Y1.heap.size Y1) (.cells #[.slice (some ⟨q, 0, none⟩) nq nq] 23)
        have kL := cell_of_row _ Y1.heap.size 0 _ _ _ (heap_alloc_new Y1 (.cells #[.slice (some ⟨q, 0, none⟩) nq nq] 23))
        have M2 := Lib.hid (M1.out.below PL.out bL)
        obtain ⟨csq, hcsq⟩ := HQ2.out
        have hltq := (Array.getElem?_eq_some_iff.1 hcsq).1
        have HQ3 := Lib.hid ((bL.block q hltq).trans hcsq)
        have HRQ2 := Lib.hid (RdW.below HRQ.out bL)
        go_simp
        refine hK.out _ _ trivial (fun _ => ?_)
        clear hK K bL M1 HQ2 HRQ hcsq hltq
        generalize Y1.alloc (.cells #[.slice (some ⟨q, 0, none⟩) nq nq] 23) = Y2 at *
        generalize Y1.heap.size = pL at *
        have KL0 := Lib.hid kL
        clear kL
        try simp only [zzA, zzB, zzC, Act.put, zzD, zzE, zzF]
        refine wpAnyH_ready (rs := [16]) (by kernel_rfl) (by simp) (AllReadyH.cons rfl (fun K hK => ?_) AllReadyH.nil)
        rw [if_pos (by rfl)]
        obtain ⟨vals, a1, a2, a3⟩ := M2.out.nx
        have a1 : Y2.ownsRow n1 23 1 vT (rowsD S E s).length vals := a1
        obtain ⟨i0, hi0, hz0, hz1, hz2⟩ := info_parts info_ints
        have hrl : (rowsD S E s).length ≤ 512 := by
          unfold rowsD
          rw [List.length_map, List.length_take, HFN.out]
          omega
        obtain ⟨fz, hmz, hfz⟩ := M2.out.mr
        obtain ⟨g8, c8, w8, hrun, ho8, hg8, hat8, hlt8⟩ := run_append_lies (P := Tryz.prog) Y2 31 31 n1 23 i0 (.slice none 0 0) 1 24 Tryz.underlying31 hi0 hz0 hz1 hz2 rfl (by omega) vT (rowsD S E s).length vals a1 ⟨pL, 0, none⟩ 1 1 [.slice (some ⟨q, 0, none⟩) nq nq] rfl (fun j u hu => by
          match j, hu with
          | 0, hu =>
            simp at hu
            subst hu
            exact KL0.out) (by simp [Value.oneCell']) (by omega) (by simp only [maxLen]; omega) (by omega) hmz.kp.size _ rfl
        refine wp_append_of_run _ _ 31 rfl vT (.slice (some ⟨pL, 0, none⟩) 1 1) rfl rfl hrun ?_
        have hqk : w8.heap[q]? = Y2.heap[q]? := hg8.block q (Array.getElem?_eq_some_iff.1 HQ3.out).1 (fun e2 => by
          rcases a1.2 with ⟨e4, _⟩ | ⟨g4, cap4, cur4, e4, _, hg4, _⟩
          · rw [e4] at e2; exact own_none q e2.symm
          · rw [e4] at e2
            obtain rfl : q = g4 := Option.some.inj e2
            exact ne_typ HQ3.out hg4 (by decide) rfl)
        have hnq : nq ≤ maxLen := by
          have h1 := HZL.out
          unfold nmD at h1
          rw [List.length_map, HNL.out] at h1
          simp only [maxLen]
          have := (leasts_len E).2
          rw [HNL.out] at this
          omega
        have hrz := RowsZ.snoc (W := Y2) (W' := w8) (n1 := n1) (v := vT) (T := rowsD S E s) (ex' := fun i => vR'.ownBlock = some i ∨ False) a1 a2 a3 hg8 ho8 HZL.out (Nat.le_refl _) hnq (fun k hk => by
          obtain ⟨ad, e, hc⟩ := HRQ2.out k hk
          obtain rfl := Option.some.inj e
          exact ⟨_, rfl, cell_keep (by rw [add_block]; exact hqk) hc⟩) (fun ad e => by
          obtain rfl := Option.some.inj e
          exact ⟨hq0, fun h => h.elim HQR.out id, _, hqk.trans HQ3.out⟩) (fun i _ h => h)
        have hM9 := M2.out.nexted PL.out (v' := .slice (some ⟨g8, 0, none⟩) ((rowsD S E s).length + 1) c8) hg8 hrz (hat8.elim (fun e => Or.inl e.symm) (fun e => Or.inr (by rw [e]; rfl)))
        rw [← rows_next HZ.out OKs.out hsl] at hM9
        have hm8 := hmz.grown PL.out hg8 (fun i e => (World.ownsRow.lt a1 i e).1)
        have c0 := hm8.c0
        have z0 := hm8.free 256
        have M9 := Lib.hid hM9
        clear hM9 hrz hrun hm8 a1 a2 a3 hmz hfz
        refine hK.out _ _ trivial (fun _ => ?_)
        clear hK K
        try simp only [zzA, zzB, zzC, Act.put, zzD, zzE, zzF]
        refine wpAnyH_take (i := 17) (v := ?vzm117) rfl (by kernel_rfl) (by kernel_rfl) (by kernel_rfl) (fun _ _ _ h => h) (Or.inl ⟨by rfl, ?yzm117⟩) hHeld ?rzm117
        case yzm117 => (intro wS hSw; clear hSw; go_simp; try (with_reducible rfl))
        try simp only [zzA, zzB, zzC, Act.put, zzD, zzE, zzF]
        refine wpAnyH_take (i := 18) (v := ?vzm118) rfl (by kernel_rfl) (by kernel_rfl) (by kernel_rfl) (fun _ _ _ h => h) (Or.inl ⟨by rfl, ?yzm118⟩) hHeld ?rzm118
        case yzm118 => (intro wS hSw; clear hSw; go_simp; try (with_reducible rfl))
        try simp only [zzA, zzB, zzC, Act.put, zzD, zzE, zzF]
        refine wpAnyH_take (i := 19) (v := ?vzm119) rfl (by kernel_rfl) (by kernel_rfl) (by kernel_rfl) (fun _ _ _ h => h) (Or.inl ⟨by rfl, ?yzm119⟩) hHeld ?rzm119
        case yzm119 => (intro wS hSw; clear hSw; go_simp; try (with_reducible rfl))
        try simp only [zzA, zzB, zzC, Act.put, zzD, zzE, zzF]
        refine wpAnyH_ready (rs := [20]) (by kernel_rfl) (by simp) (AllReadyH.cons rfl (fun K hK => ?_) AllReadyH.nil)
        go_simp
        refine hK.out _ _ trivial (fun _ => ?_)
        clear hK K c0 z0
        try simp only [zzA, zzB, zzC, Act.put, zzD, zzE, zzF]
        refine wpAnyH_done (by kernel_rfl) ?_ _
        generalize w8.setCell ⟨g, 256, none⟩ (.slice (some ⟨g8, 0, none⟩) ((rowsD S E s).length + 1) c8) = w9 at *
        obtain ⟨f9, hm9, _⟩ := M9.out.mr
        obtain ⟨A9, n9, c9, e9, hfn9⟩ := M9.out.fo.form
        have e9 : vF' = .slice A9 n9 c9 := e9
        rw [List.length_map] at hfn9
        have hfn9 : (foD S E (s + 1)).length = n9 := hfn9.out
        have HF9 := Lib.hid hfn9
        subst e9
        have c69 := hm9.c6
        have hb19 : w9.heap[W.heap.size + 1]? = some (.cells dz 33 (0, 0)) := (hm9.low.block (W.heap.size + 1) (by omega)).trans K1.out
        have HB19 := Lib.hid hb19
        have HL9 := Lib.hid hm9.low
        have hn9 : n9 ≤ 1000000 := by
          have h := rowD_le S E (foD S E s)[s] (leastsE E) (foD S E s)
          rw [← fo_next S E hsl, hfn9, HFN.out] at h
          have := (leasts_len E).2
          omega
        clear hm9 hfn9 hb19
        by_cases hbig : 512 < n9
        · have hbz := build_dz
          go_wp2_with (refine wpList_store_row rfl 33 _ _ rfl (W.heap.size + 1) dz rfl rfl _ _ HB19.out (by rw [sizeD, dz_size]) rfl dz_one ?_)
          refine ⟨rfl, .tuple #[.agg dz, .int .i64 5], res_dfa rfl _ _ (W.heap.size + 1) dz _ rfl rfl (setRow_heap _ _ _ dz _ _ HB19.out) dz_size, ?_⟩
          rw [← HQ.out]
          exact ⟨bl_setRow (bl_trans B2.out HL9.out) (by omega) _, Or.inl ⟨found_many OKs.out hsl (by rw [HF9.out]; exact hbig), rfl⟩⟩
        · go_wp2_with fail
          exact ⟨⟨s + 1, rd + nl, _, _, _, by go_num, HS9.out, (by have h := (leasts_len E).2; rw [HNL.out] at h; omega), ok_next OKs.out hsl (by rw [HF9.out]; omega), M9.out⟩, by simp [intOf]; omega⟩
      · skip
        obtain ⟨fz, hmz, _⟩ := M0.out.mr
        have hcl := hmz.c6
        clear hmz
        go_simp
        refine hK.out _ _ trivial (fun _ => ?_)
        clear hK K hcl
        try simp only [zzA, zzB, zzC, Act.put, zzD, zzE, zzF]
        refine wpAnyH_take (i := 12) (v := ?vzi112) rfl (by kernel_rfl) (by kernel_rfl) (by kernel_rfl) (fun _ _ _ h => h) (Or.inl ⟨by rfl, ?yzi112⟩) hHeld ?rzi112
        case yzi112 => (intro wS hSw; clear hSw; go_simp; try (with_reducible rfl))
        try simp only [zzA, zzB, zzC, Act.put, zzD, zzE, zzF]
        refine wpAnyH_ready (rs := [5, 13]) (by kernel_rfl) (by simp) (AllReadyH.cons rfl (fun K hK => ?_) (AllReadyH.cons rfl (fun K hK => ?_) AllReadyH.nil))
        · skip
          obtain ⟨fz, hmz, _⟩ := M0.out.mr
          have hcl := hmz.c0
          clear hmz
          go_simp
          refine hK.out _ _ trivial (fun _ => ?_)
          clear hK K hcl
          try simp only [zzA, zzB, zzC, Act.put, zzD, zzE, zzF]
          refine wpAnyH_ready (rs := [13]) (by kernel_rfl) (by simp) (AllReadyH.cons rfl (fun K hK => ?_) AllReadyH.nil)
          have hcl := HCL.out
          go_simp
          refine hK.out _ _ trivial (fun _ => ?_)
          clear hK K hcl
          try simp only [zzA, zzB, zzC, Act.put, zzD, zzE, zzF]
          refine wpAnyH_ready (rs := [14]) (by kernel_rfl) (by simp) (AllReadyH.cons rfl (fun K hK => ?_) AllReadyH.nil)
          rw [if_pos (by rfl)]
          go_simp
          have hrow := row_any (W0 := w2) (W1 := w3) (cl := fun c => (classE E c : Int)) (X := X) (vT := vT) (vR := vR) (vX := .slice Ax nx cx) (vF := .slice (some adr) n c) st rfl rfl Al cls nl rfl HNL.out HLB.out Ax nx cx rfl hnx hnx2 hX2.out rd (by omega) (foD S E s) (rowsD S E s) (by rw [HFN.out]; omega) (good_fo S E s) Bs ms ds (foD S E s)[s] hms1 (by omega) (good_fo S E s _ (List.getElem_mem hsl)).1 Y0 M0.out HRS.out
          rw [← fo_next S E hsl] at hrow
          go_at_call 31
          refine hrow.mono ?_
          rintro e Y1 ⟨vF', vR', q, nq, rfl, hzl, hrdq, hq1, hq2, hqr, hM'⟩
          clear hrow
          obtain ⟨fz, hmz, _⟩ := M0.out.mr
          have hsz := hmz.kp.size
          clear hmz
          have M1 := Lib.hid hM'
          have HZL := Lib.hid hzl
          have HRQ := Lib.hid hrdq
          have HQ2 := Lib.hid hq2
          have HQR := Lib.hid hqr
          have hq0 : n1 ≤ q := by omega
          clear hM' hzl hrdq hq2 hqr hq1
          refine hK.out _ _ trivial (fun _ => ?_)
          clear hK K M0
          try simp only [zzA, zzB, zzC, Act.put, zzD, zzE, zzF]
          refine wpAnyH_ready (rs := [15]) (by kernel_rfl) (by simp) (AllReadyH.cons rfl (fun K hK => ?_) AllReadyH.nil)
          have bL := bl_alloc (Below.refl Y1.heap.size Y1) (.cells #[.slice (some ⟨q, 0, none⟩) nq nq] 23)
          have kL := cell_of_row _ Y1.heap.size 0 _ _ _ (heap_alloc_new Y1 (.cells #[.slice (some ⟨q, 0, none⟩) nq nq] 23))
          have M2 := Lib.hid (M1.out.below PL.out bL)
          obtain ⟨csq, hcsq⟩ := HQ2.out
          have hltq := (Array.getElem?_eq_some_iff.1 hcsq).1
          have HQ3 := Lib.hid ((bL.block q hltq).trans hcsq)
          have HRQ2 := Lib.hid (RdW.below HRQ.out bL)
          go_simp
          refine hK.out _ _ trivial (fun _ => ?_)
          clear hK K bL M1 HQ2 HRQ hcsq hltq
          generalize Y1.alloc (.cells #[.slice (some ⟨q, 0, none⟩) nq nq] 23) = Y2 at *
          generalize Y1.heap.size = pL at *
          have KL0 := Lib.hid kL
          clear kL
          try simp only [zzA, zzB, zzC, Act.put, zzD, zzE, zzF]
          refine wpAnyH_ready (rs := [16]) (by kernel_rfl) (by simp) (AllReadyH.cons rfl (fun K hK => ?_) AllReadyH.nil)
          rw [if_pos (by rfl)]
          obtain ⟨vals, a1, a2, a3⟩ := M2.out.nx
          have a1 : Y2.ownsRow n1 23 1 vT (rowsD S E s).length vals := a1
          obtain ⟨i0, hi0, hz0, hz1, hz2⟩ := info_parts info_ints
          have hrl : (rowsD S E s).length ≤ 512 := by
            unfold rowsD
            rw [List.length_map, List.length_take, HFN.out]
            omega
          obtain ⟨fz, hmz, hfz⟩ := M2.out.mr
          obtain ⟨g8, c8, w8, hrun, ho8, hg8, hat8, hlt8⟩ := run_append_lies (P := Tryz.prog) Y2 31 31 n1 23 i0 (.slice none 0 0) 1 24 Tryz.underlying31 hi0 hz0 hz1 hz2 rfl (by omega) vT (rowsD S E s).length vals a1 ⟨pL, 0, none⟩ 1 1 [.slice (some ⟨q, 0, none⟩) nq nq] rfl (fun j u hu => by
            match j, hu with
            | 0, hu =>
              simp at hu
              subst hu
              exact KL0.out) (by simp [Value.oneCell']) (by omega) (by simp only [maxLen]; omega) (by omega) hmz.kp.size _ rfl
          refine wp_append_of_run _ _ 31 rfl vT (.slice (some ⟨pL, 0, none⟩) 1 1) rfl rfl hrun ?_
          have hqk : w8.heap[q]? = Y2.heap[q]? := hg8.block q (Array.getElem?_eq_some_iff.1 HQ3.out).1 (fun e2 => by
            rcases a1.2 with ⟨e4, _⟩ | ⟨g4, cap4, cur4, e4, _, hg4, _⟩
            · rw [e4] at e2; exact own_none q e2.symm
            · rw [e4] at e2
              obtain rfl : q = g4 := Option.some.inj e2
              exact ne_typ HQ3.out hg4 (by decide) rfl)
          have hnq : nq ≤ maxLen := by
            have h1 := HZL.out
            unfold nmD at h1
            rw [List.length_map, HNL.out] at h1
            simp only [maxLen]
            have := (leasts_len E).2
            rw [HNL.out] at this
            omega
          have hrz := RowsZ.snoc (W := Y2) (W' := w8) (n1 := n1) (v := vT) (T := rowsD S E s) (ex' := fun i => vR'.ownBlock = some i ∨ False) a1 a2 a3 hg8 ho8 HZL.out (Nat.le_refl _) hnq (fun k hk => by
            obtain ⟨ad, e, hc⟩ := HRQ2.out k hk
            obtain rfl := Option.some.inj e
            exact ⟨_, rfl, cell_keep (by rw [add_block]; exact hqk) hc⟩) (fun ad e => by
            obtain rfl := Option.some.inj e
            exact ⟨hq0, fun h => h.elim HQR.out id, _, hqk.trans HQ3.out⟩) (fun i _ h => h)
          have hM9 := M2.out.nexted PL.out (v' := .slice (some ⟨g8, 0, none⟩) ((rowsD S E s).length + 1) c8) hg8 hrz (hat8.elim (fun e => Or.inl e.symm) (fun e => Or.inr (by rw [e]; rfl)))
          rw [← rows_next HZ.out OKs.out hsl] at hM9
          have hm8 := hmz.grown PL.out hg8 (fun i e => (World.ownsRow.lt a1 i e).1)
          have c0 := hm8.c0
          have z0 := hm8.free 256
          have M9 := Lib.hid hM9
          clear hM9 hrz hrun hm8 a1 a2 a3 hmz hfz
          refine hK.out _ _ trivial (fun _ => ?_)
          clear hK K
          try simp only [zzA, zzB, zzC, Act.put, zzD, zzE, zzF]
          refine wpAnyH_take (i := 17) (v := ?vzm217) rfl (by kernel_rfl) (by kernel_rfl) (by kernel_rfl) (fun _ _ _ h => h) (Or.inl ⟨by rfl, ?yzm217⟩) hHeld ?rzm217
          case yzm217 => (intro wS hSw; clear hSw; go_simp; try (with_reducible rfl))
          try simp only [zzA, zzB, zzC, Act.put, zzD, zzE, zzF]
          refine wpAnyH_take (i := 18) (v := ?vzm218) rfl (by kernel_rfl) (by kernel_rfl) (by kernel_rfl) (fun _ _ _ h => h) (Or.inl ⟨by rfl, ?yzm218⟩) hHeld ?rzm218
          case yzm218 => (intro wS hSw; clear hSw; go_simp; try (with_reducible rfl))
          try simp only [zzA, zzB, zzC, Act.put, zzD, zzE, zzF]
          refine wpAnyH_take (i := 19) (v := ?vzm219) rfl (by kernel_rfl) (by kernel_rfl) (by kernel_rfl) (fun _ _ _ h => h) (Or.inl ⟨by rfl, ?yzm219⟩) hHeld ?rzm219
          case yzm219 => (intro wS hSw; clear hSw; go_simp; try (with_reducible rfl))
          try simp only [zzA, zzB, zzC, Act.put, zzD, zzE, zzF]
          refine wpAnyH_ready (rs := [20]) (by kernel_rfl) (by simp) (AllReadyH.cons rfl (fun K hK => ?_) AllReadyH.nil)
          go_simp
          refine hK.out _ _ trivial (fun _ => ?_)
          clear hK K c0 z0
          try simp only [zzA, zzB, zzC, Act.put, zzD, zzE, zzF]
          refine wpAnyH_done (by kernel_rfl) ?_ _
          generalize w8.setCell ⟨g, 256, none⟩ (.slice (some ⟨g8, 0, none⟩) ((rowsD S E s).length + 1) c8) = w9 at *
          obtain ⟨f9, hm9, _⟩ := M9.out.mr
          obtain ⟨A9, n9, c9, e9, hfn9⟩ := M9.out.fo.form
          have e9 : vF' = .slice A9 n9 c9 := e9
          rw [List.length_map] at hfn9
          have hfn9 : (foD S E (s + 1)).length = n9 := hfn9.out
          have HF9 := Lib.hid hfn9
          subst e9
          have c69 := hm9.c6
          have hb19 : w9.heap[W.heap.size + 1]? = some (.cells dz 33 (0, 0)) := (hm9.low.block (W.heap.size + 1) (by omega)).trans K1.out
          have HB19 := Lib.hid hb19
          have HL9 := Lib.hid hm9.low
          have hn9 : n9 ≤ 1000000 := by
            have h := rowD_le S E (foD S E s)[s] (leastsE E) (foD S E s)
            rw [← fo_next S E hsl, hfn9, HFN.out] at h
            have := (leasts_len E).2
            omega
          clear hm9 hfn9 hb19
          by_cases hbig : 512 < n9
          · have hbz := build_dz
            go_wp2_with (refine wpList_store_row rfl 33 _ _ rfl (W.heap.size + 1) dz rfl rfl _ _ HB19.out (by rw [sizeD, dz_size]) rfl dz_one ?_)
            refine ⟨rfl, .tuple #[.agg dz, .int .i64 5], res_dfa rfl _ _ (W.heap.size + 1) dz _ rfl rfl (setRow_heap _ _ _ dz _ _ HB19.out) dz_size, ?_⟩
            rw [← HQ.out]
            exact ⟨bl_setRow (bl_trans B2.out HL9.out) (by omega) _, Or.inl ⟨found_many OKs.out hsl (by rw [HF9.out]; exact hbig), rfl⟩⟩
          · go_wp2_with fail
            exact ⟨⟨s + 1, rd + nl, _, _, _, by go_num, HS9.out, (by have h := (leasts_len E).2; rw [HNL.out] at h; omega), ok_next OKs.out hsl (by rw [HF9.out]; omega), M9.out⟩, by simp [intOf]; omega⟩
        · skip
          have hcl := HCL.out
          go_simp
          refine hK.out _ _ trivial (fun _ => ?_)
          clear hK K hcl
          try simp only [zzA, zzB, zzC, Act.put, zzD, zzE, zzF]
          refine wpAnyH_ready (rs := [5, 14]) (by kernel_rfl) (by simp) (AllReadyH.cons rfl (fun K hK => ?_) (AllReadyH.cons rfl (fun K hK => ?_) AllReadyH.nil))
          · skip
            obtain ⟨fz, hmz, _⟩ := M0.out.mr
            have hcl := hmz.c0
            clear hmz
            go_simp
            refine hK.out _ _ trivial (fun _ => ?_)
            clear hK K hcl
            try simp only [zzA, zzB, zzC, Act.put, zzD, zzE, zzF]
            refine wpAnyH_ready (rs := [14]) (by kernel_rfl) (by simp) (AllReadyH.cons rfl (fun K hK => ?_) AllReadyH.nil)
            rw [if_pos (by rfl)]
            go_simp
            have hrow := row_any (W0 := w2) (W1 := w3) (cl := fun c => (classE E c : Int)) (X := X) (vT := vT) (vR := vR) (vX := .slice Ax nx cx) (vF := .slice (some adr) n c) st rfl rfl Al cls nl rfl HNL.out HLB.out Ax nx cx rfl hnx hnx2 hX2.out rd (by omega) (foD S E s) (rowsD S E s) (by rw [HFN.out]; omega) (good_fo S E s) Bs ms ds (foD S E s)[s] hms1 (by omega) (good_fo S E s _ (List.getElem_mem hsl)).1 Y0 M0.out HRS.out
            rw [← fo_next S E hsl] at hrow
            go_at_call 31
            refine hrow.mono ?_
            rintro e Y1 ⟨vF', vR', q, nq, rfl, hzl, hrdq, hq1, hq2, hqr, hM'⟩
            clear hrow
            obtain ⟨fz, hmz, _⟩ := M0.out.mr
            have hsz := hmz.kp.size
            clear hmz
            have M1 := Lib.hid hM'
            have HZL := Lib.hid hzl
            have HRQ := Lib.hid hrdq
            have HQ2 := Lib.hid hq2
            have HQR := Lib.hid hqr
            have hq0 : n1 ≤ q := by omega
            clear hM' hzl hrdq hq2 hqr hq1
            refine hK.out _ _ trivial (fun _ => ?_)
            clear hK K M0
            try simp only [zzA, zzB, zzC, Act.put, zzD, zzE, zzF]
            refine wpAnyH_ready (rs := [15]) (by kernel_rfl) (by simp) (AllReadyH.cons rfl (fun K hK => ?_) AllReadyH.nil)
            have bL := bl_alloc (Below.refl Y1.heap.size Y1) (.cells #[.slice (some ⟨q, 0, none⟩) nq nq] 23)
            have kL := cell_of_row _ Y1.heap.size 0 _ _ _ (heap_alloc_new Y1 (.cells #[.slice (some ⟨q, 0, none⟩) nq nq] 23))
            have M2 := Lib.hid (M1.out.below PL.out bL)
            obtain ⟨csq, hcsq⟩ := HQ2.out
            have hltq := (Array.getElem?_eq_some_iff.1 hcsq).1
            have HQ3 := Lib.hid ((bL.block q hltq).trans hcsq)
            have HRQ2 := Lib.hid (RdW.below HRQ.out bL)
            go_simp
            refine hK.out _ _ trivial (fun _ => ?_)
            clear hK K bL M1 HQ2 HRQ hcsq hltq
            generalize Y1.alloc (.cells #[.slice (some ⟨q, 0, none⟩) nq nq] 23) = Y2 at *
            generalize Y1.heap.size = pL at *
            have KL0 := Lib.hid kL
            clear kL
            try simp only [zzA, zzB, zzC, Act.put, zzD, zzE, zzF]
            refine wpAnyH_ready (rs := [16]) (by kernel_rfl) (by simp) (AllReadyH.cons rfl (fun K hK => ?_) AllReadyH.nil)
            rw [if_pos (by rfl)]
            obtain ⟨vals, a1, a2, a3⟩ := M2.out.nx
            have a1 : Y2.ownsRow n1 23 1 vT (rowsD S E s).length vals := a1
            obtain ⟨i0, hi0, hz0, hz1, hz2⟩ := info_parts info_ints
            have hrl : (rowsD S E s).length ≤ 512 := by
              unfold rowsD
              rw [List.length_map, List.length_take, HFN.out]
              omega
            obtain ⟨fz, hmz, hfz⟩ := M2.out.mr
            obtain ⟨g8, c8, w8, hrun, ho8, hg8, hat8, hlt8⟩ := run_append_lies (P := Tryz.prog) Y2 31 31 n1 23 i0 (.slice none 0 0) 1 24 Tryz.underlying31 hi0 hz0 hz1 hz2 rfl (by omega) vT (rowsD S E s).length vals a1 ⟨pL, 0, none⟩ 1 1 [.slice (some ⟨q, 0, none⟩) nq nq] rfl (fun j u hu => by
              match j, hu with
              | 0, hu =>
                simp at hu
                subst hu
                exact KL0.out) (by simp [Value.oneCell']) (by omega) (by simp only [maxLen]; omega) (by omega) hmz.kp.size _ rfl
            refine wp_append_of_run _ _ 31 rfl vT (.slice (some ⟨pL, 0, none⟩) 1 1) rfl rfl hrun ?_
            have hqk : w8.heap[q]? = Y2.heap[q]? := hg8.block q (Array.getElem?_eq_some_iff.1 HQ3.out).1 (fun e2 => by
              rcases a1.2 with ⟨e4, _⟩ | ⟨g4, cap4, cur4, e4, _, hg4, _⟩
              · rw [e4] at e2; exact own_none q e2.symm
              · rw [e4] at e2
                obtain rfl : q = g4 := Option.some.inj e2
                exact ne_typ HQ3.out hg4 (by decide) rfl)
            have hnq : nq ≤ maxLen := by
              have h1 := HZL.out
              unfold nmD at h1
              rw [List.length_map, HNL.out] at h1
              simp only [maxLen]
              have := (leasts_len E).2
              rw [HNL.out] at this
              omega
            have hrz := RowsZ.snoc (W := Y2) (W' := w8) (n1 := n1) (v := vT) (T := rowsD S E s) (ex' := fun i => vR'.ownBlock = some i ∨ False) a1 a2 a3 hg8 ho8 HZL.out (Nat.le_refl _) hnq (fun k hk => by
              obtain ⟨ad, e, hc⟩ := HRQ2.out k hk
              obtain rfl := Option.some.inj e
              exact ⟨_, rfl, cell_keep (by rw [add_block]; exact hqk) hc⟩) (fun ad e => by
              obtain rfl := Option.some.inj e
              exact ⟨hq0, fun h => h.elim HQR.out id, _, hqk.trans HQ3.out⟩) (fun i _ h => h)
            have hM9 := M2.out.nexted PL.out (v' := .slice (some ⟨g8, 0, none⟩) ((rowsD S E s).length + 1) c8) hg8 hrz (hat8.elim (fun e => Or.inl e.symm) (fun e => Or.inr (by rw [e]; rfl)))
            rw [← rows_next HZ.out OKs.out hsl] at hM9
            have hm8 := hmz.grown PL.out hg8 (fun i e => (World.ownsRow.lt a1 i e).1)
            have c0 := hm8.c0
            have z0 := hm8.free 256
            have M9 := Lib.hid hM9
            clear hM9 hrz hrun hm8 a1 a2 a3 hmz hfz
            refine hK.out _ _ trivial (fun _ => ?_)
            clear hK K
            try simp only [zzA, zzB, zzC, Act.put, zzD, zzE, zzF]
            refine wpAnyH_take (i := 17) (v := ?vzm317) rfl (by kernel_rfl) (by kernel_rfl) (by kernel_rfl) (fun _ _ _ h => h) (Or.inl ⟨by rfl, ?yzm317⟩) hHeld ?rzm317
            case yzm317 => (intro wS hSw; clear hSw; go_simp; try (with_reducible rfl))
            try simp only [zzA, zzB, zzC, Act.put, zzD, zzE, zzF]
            refine wpAnyH_take (i := 18) (v := ?vzm318) rfl (by kernel_rfl) (by kernel_rfl) (by kernel_rfl) (fun _ _ _ h => h) (Or.inl ⟨by rfl, ?yzm318⟩) hHeld ?rzm318
            case yzm318 => (intro wS hSw; clear hSw; go_simp; try (with_reducible rfl))
            try simp only [zzA, zzB, zzC, Act.put, zzD, zzE, zzF]
            refine wpAnyH_take (i := 19) (v := ?vzm319) rfl (by kernel_rfl) (by kernel_rfl) (by kernel_rfl) (fun _ _ _ h => h) (Or.inl ⟨by rfl, ?yzm319⟩) hHeld ?rzm319
            case yzm319 => (intro wS hSw; clear hSw; go_simp; try (with_reducible rfl))
            try simp only [zzA, zzB, zzC, Act.put, zzD, zzE, zzF]
            refine wpAnyH_ready (rs := [20]) (by kernel_rfl) (by simp) (AllReadyH.cons rfl (fun K hK => ?_) AllReadyH.nil)
            go_simp
            refine hK.out _ _ trivial (fun _ => ?_)
            clear hK K c0 z0
            try simp only [zzA, zzB, zzC, Act.put, zzD, zzE, zzF]
            refine wpAnyH_done (by kernel_rfl) ?_ _
            generalize w8.setCell ⟨g, 256, none⟩ (.slice (some ⟨g8, 0, none⟩) ((rowsD S E s).length + 1) c8) = w9 at *
            obtain ⟨f9, hm9, _⟩ := M9.out.mr
            obtain ⟨A9, n9, c9, e9, hfn9⟩ := M9.out.fo.form
            have e9 : vF' = .slice A9 n9 c9 := e9
            rw [List.length_map] at hfn9
            have hfn9 : (foD S E (s + 1)).length = n9 := hfn9.out
            have HF9 := Lib.hid hfn9
            subst e9
            have c69 := hm9.c6
            have hb19 : w9.heap[W.heap.size + 1]? = some (.cells dz 33 (0, 0)) := (hm9.low.block (W.heap.size + 1) (by omega)).trans K1.out
            have HB19 := Lib.hid hb19
            have HL9 := Lib.hid hm9.low
            have hn9 : n9 ≤ 1000000 := by
              have h := rowD_le S E (foD S E s)[s] (leastsE E) (foD S E s)
              rw [← fo_next S E hsl, hfn9, HFN.out] at h
              have := (leasts_len E).2
              omega
            clear hm9 hfn9 hb19
            by_cases hbig : 512 < n9
            · have hbz := build_dz
              go_wp2_with (refine wpList_store_row rfl 33 _ _ rfl (W.heap.size + 1) dz rfl rfl _ _ HB19.out (by rw [sizeD, dz_size]) rfl dz_one ?_)
              refine ⟨rfl, .tuple #[.agg dz, .int .i64 5], res_dfa rfl _ _ (W.heap.size + 1) dz _ rfl rfl (setRow_heap _ _ _ dz _ _ HB19.out) dz_size, ?_⟩
              rw [← HQ.out]
              exact ⟨bl_setRow (bl_trans B2.out HL9.out) (by omega) _, Or.inl ⟨found_many OKs.out hsl (by rw [HF9.out]; exact hbig), rfl⟩⟩
            · go_wp2_with fail
              exact ⟨⟨s + 1, rd + nl, _, _, _, by go_num, HS9.out, (by have h := (leasts_len E).2; rw [HNL.out] at h; omega), ok_next OKs.out hsl (by rw [HF9.out]; omega), M9.out⟩, by simp [intOf]; omega⟩
          · skip
            rw [if_pos (by rfl)]
            go_simp
            have hrow := row_any (W0 := w2) (W1 := w3) (cl := fun c => (classE E c : Int)) (X := X) (vT := vT) (vR := vR) (vX := .slice Ax nx cx) (vF := .slice (some adr) n c) st rfl rfl Al cls nl rfl HNL.out HLB.out Ax nx cx rfl hnx hnx2 hX2.out rd (by omega) (foD S E s) (rowsD S E s) (by rw [HFN.out]; omega) (good_fo S E s) Bs ms ds (foD S E s)[s] hms1 (by omega) (good_fo S E s _ (List.getElem_mem hsl)).1 Y0 M0.out HRS.out
            rw [← fo_next S E hsl] at hrow
            go_at_call 31
            refine hrow.mono ?_
            rintro e Y1 ⟨vF', vR', q, nq, rfl, hzl, hrdq, hq1, hq2, hqr, hM'⟩
            clear hrow
            obtain ⟨fz, hmz, _⟩ := M0.out.mr
            have hsz := hmz.kp.size
            clear hmz
            have M1 := Lib.hid hM'
            have HZL := Lib.hid hzl
            have HRQ := Lib.hid hrdq
            have HQ2 := Lib.hid hq2
            have HQR := Lib.hid hqr
            have hq0 : n1 ≤ q := by omega
            clear hM' hzl hrdq hq2 hqr hq1
            refine hK.out _ _ trivial (fun _ => ?_)
            clear hK K M0
            try simp only [zzA, zzB, zzC, Act.put, zzD, zzE, zzF]
            refine wpAnyH_ready (rs := [5, 15]) (by kernel_rfl) (by simp) (AllReadyH.cons rfl (fun K hK => ?_) (AllReadyH.cons rfl (fun K hK => ?_) AllReadyH.nil))
            · skip
              obtain ⟨fz, hmz, _⟩ := M1.out.mr
              have hcl := hmz.c0
              clear hmz
              go_simp
              refine hK.out _ _ trivial (fun _ => ?_)
              clear hK K hcl
              try simp only [zzA, zzB, zzC, Act.put, zzD, zzE, zzF]
              refine wpAnyH_ready (rs := [15]) (by kernel_rfl) (by simp) (AllReadyH.cons rfl (fun K hK => ?_) AllReadyH.nil)
              have bL := bl_alloc (Below.refl Y1.heap.size Y1) (.cells #[.slice (some ⟨q, 0, none⟩) nq nq] 23)
              have kL := cell_of_row _ Y1.heap.size 0 _ _ _ (heap_alloc_new Y1 (.cells #[.slice (some ⟨q, 0, none⟩) nq nq] 23))
              have M2 := Lib.hid (M1.out.below PL.out bL)
              obtain ⟨csq, hcsq⟩ := HQ2.out
              have hltq := (Array.getElem?_eq_some_iff.1 hcsq).1
              have HQ3 := Lib.hid ((bL.block q hltq).trans hcsq)
              have HRQ2 := Lib.hid (RdW.below HRQ.out bL)
              go_simp
              refine hK.out _ _ trivial (fun _ => ?_)
              clear hK K bL M1 HQ2 HRQ hcsq hltq
              generalize Y1.alloc (.cells #[.slice (some ⟨q, 0, none⟩) nq nq] 23) = Y2 at *
              generalize Y1.heap.size = pL at *
              have KL0 := Lib.hid kL
              clear kL
              try simp only [zzA, zzB, zzC, Act.put, zzD, zzE, zzF]
              refine wpAnyH_ready (rs := [16]) (by kernel_rfl) (by simp) (AllReadyH.cons rfl (fun K hK => ?_) AllReadyH.nil)
              rw [if_pos (by rfl)]
              obtain ⟨vals, a1, a2, a3⟩ := M2.out.nx
              have a1 : Y2.ownsRow n1 23 1 vT (rowsD S E s).length vals := a1
              obtain ⟨i0, hi0, hz0, hz1, hz2⟩ := info_parts info_ints
              have hrl : (rowsD S E s).length ≤ 512 := by
                unfold rowsD
                rw [List.length_map, List.length_take, HFN.out]
                omega
              obtain ⟨fz, hmz, hfz⟩ := M2.out.mr
              obtain ⟨g8, c8, w8, hrun, ho8, hg8, hat8, hlt8⟩ := run_append_lies (P := Tryz.prog) Y2 31 31 n1 23 i0 (.slice none 0 0) 1 24 Tryz.underlying31 hi0 hz0 hz1 hz2 rfl (by omega) vT (rowsD S E s).length vals a1 ⟨pL, 0, none⟩ 1 1 [.slice (some ⟨q, 0, none⟩) nq nq] rfl (fun j u hu => by
                match j, hu with
                | 0, hu =>
                  simp at hu
                  subst hu
                  exact KL0.out) (by simp [Value.oneCell']) (by omega) (by simp only [maxLen]; omega) (by omega) hmz.kp.size _ rfl
              refine wp_append_of_run _ _ 31 rfl vT (.slice (some ⟨pL, 0, none⟩) 1 1) rfl rfl hrun ?_
              have hqk : w8.heap[q]? = Y2.heap[q]? := hg8.block q (Array.getElem?_eq_some_iff.1 HQ3.out).1 (fun e2 => by
                rcases a1.2 with ⟨e4, _⟩ | ⟨g4, cap4, cur4, e4, _, hg4, _⟩
                · rw [e4] at e2; exact own_none q e2.symm
                · rw [e4] at e2
                  obtain rfl : q = g4 := Option.some.inj e2
                  exact ne_typ HQ3.out hg4 (by decide) rfl)
              have hnq : nq ≤ maxLen := by
                have h1 := HZL.out
                unfold nmD at h1
                rw [List.length_map, HNL.out] at h1
                simp only [maxLen]
                have := (leasts_len E).2
                rw [HNL.out] at this
                omega
              have hrz := RowsZ.snoc (W := Y2) (W' := w8) (n1 := n1) (v := vT) (T := rowsD S E s) (ex' := fun i => vR'.ownBlock = some i ∨ False) a1 a2 a3 hg8 ho8 HZL.out (Nat.le_refl _) hnq (fun k hk => by
                obtain ⟨ad, e, hc⟩ := HRQ2.out k hk
                obtain rfl := Option.some.inj e
                exact ⟨_, rfl, cell_keep (by rw [add_block]; exact hqk) hc⟩) (fun ad e => by
                obtain rfl := Option.some.inj e
                exact ⟨hq0, fun h => h.elim HQR.out id, _, hqk.trans HQ3.out⟩) (fun i _ h => h)
              have hM9 := M2.out.nexted PL.out (v' := .slice (some ⟨g8, 0, none⟩) ((rowsD S E s).length + 1) c8) hg8 hrz (hat8.elim (fun e => Or.inl e.symm) (fun e => Or.inr (by rw [e]; rfl)))
              rw [← rows_next HZ.out OKs.out hsl] at hM9
              have hm8 := hmz.grown PL.out hg8 (fun i e => (World.ownsRow.lt a1 i e).1)
              have c0 := hm8.c0
              have z0 := hm8.free 256
              have M9 := Lib.hid hM9
              clear hM9 hrz hrun hm8 a1 a2 a3 hmz hfz
              refine hK.out _ _ trivial (fun _ => ?_)
              clear hK K
              try simp only [zzA, zzB, zzC, Act.put, zzD, zzE, zzF]
              refine wpAnyH_take (i := 17) (v := ?vzm417) rfl (by kernel_rfl) (by kernel_rfl) (by kernel_rfl) (fun _ _ _ h => h) (Or.inl ⟨by rfl, ?yzm417⟩) hHeld ?rzm417
              case yzm417 => (intro wS hSw; clear hSw; go_simp; try (with_reducible rfl))
              try simp only [zzA, zzB, zzC, Act.put, zzD, zzE, zzF]
              refine wpAnyH_take (i := 18) (v := ?vzm418) rfl (by kernel_rfl) (by kernel_rfl) (by kernel_rfl) (fun _ _ _ h => h) (Or.inl ⟨by rfl, ?yzm418⟩) hHeld ?rzm418
              case yzm418 => (intro wS hSw; clear hSw; go_simp; try (with_reducible rfl))
              try simp only [zzA, zzB, zzC, Act.put, zzD, zzE, zzF]
              refine wpAnyH_take (i := 19) (v := ?vzm419) rfl (by kernel_rfl) (by kernel_rfl) (by kernel_rfl) (fun _ _ _ h => h) (Or.inl ⟨by rfl, ?yzm419⟩) hHeld ?rzm419
              case yzm419 => (intro wS hSw; clear hSw; go_simp; try (with_reducible rfl))
              try simp only [zzA, zzB, zzC, Act.put, zzD, zzE, zzF]
              refine wpAnyH_ready (rs := [20]) (by kernel_rfl) (by simp) (AllReadyH.cons rfl (fun K hK => ?_) AllReadyH.nil)
              go_simp
              refine hK.out _ _ trivial (fun _ => ?_)
              clear hK K c0 z0
              try simp only [zzA, zzB, zzC, Act.put, zzD, zzE, zzF]
              refine wpAnyH_done (by kernel_rfl) ?_ _
              generalize w8.setCell ⟨g, 256, none⟩ (.slice (some ⟨g8, 0, none⟩) ((rowsD S E s).length + 1) c8) = w9 at *
              obtain ⟨f9, hm9, _⟩ := M9.out.mr
              obtain ⟨A9, n9, c9, e9, hfn9⟩ := M9.out.fo.form
              have e9 : vF' = .slice A9 n9 c9 := e9
              rw [List.length_map] at hfn9
              have hfn9 : (foD S E (s + 1)).length = n9 := hfn9.out
              have HF9 := Lib.hid hfn9
              subst e9
              have c69 := hm9.c6
              have hb19 : w9.heap[W.heap.size + 1]? = some (.cells dz 33 (0, 0)) := (hm9.low.block (W.heap.size + 1) (by omega)).trans K1.out
              have HB19 := Lib.hid hb19
              have HL9 := Lib.hid hm9.low
              have hn9 : n9 ≤ 1000000 := by
                have h := rowD_le S E (foD S E s)[s] (leastsE E) (foD S E s)
                rw [← fo_next S E hsl, hfn9, HFN.out] at h
                have := (leasts_len E).2
                omega
              clear hm9 hfn9 hb19
              by_cases hbig : 512 < n9
              · have hbz := build_dz
                go_wp2_with (refine wpList_store_row rfl 33 _ _ rfl (W.heap.size + 1) dz rfl rfl _ _ HB19.out (by rw [sizeD, dz_size]) rfl dz_one ?_)
                refine ⟨rfl, .tuple #[.agg dz, .int .i64 5], res_dfa rfl _ _ (W.heap.size + 1) dz _ rfl rfl (setRow_heap _ _ _ dz _ _ HB19.out) dz_size, ?_⟩
                rw [← HQ.out]
                exact ⟨bl_setRow (bl_trans B2.out HL9.out) (by omega) _, Or.inl ⟨found_many OKs.out hsl (by rw [HF9.out]; exact hbig), rfl⟩⟩
              · go_wp2_with fail
                exact ⟨⟨s + 1, rd + nl, _, _, _, by go_num, HS9.out, (by have h := (leasts_len E).2; rw [HNL.out] at h; omega), ok_next OKs.out hsl (by rw [HF9.out]; omega), M9.out⟩, by simp [intOf]; omega⟩
            · skip
              have bL := bl_alloc (Below.refl Y1.heap.size Y1) (.cells #[.slice (some ⟨q, 0, none⟩) nq nq] 23)
              have kL := cell_of_row _ Y1.heap.size 0 _ _ _ (heap_alloc_new Y1 (.cells #[.slice (some ⟨q, 0, none⟩) nq nq] 23))
              have M2 := Lib.hid (M1.out.below PL.out bL)
              obtain ⟨csq, hcsq⟩ := HQ2.out
              have hltq := (Array.getElem?_eq_some_iff.1 hcsq).1
              have HQ3 := Lib.hid ((bL.block q hltq).trans hcsq)
              have HRQ2 := Lib.hid (RdW.below HRQ.out bL)
              go_simp
              refine hK.out _ _ trivial (fun _ => ?_)
              clear hK K bL M1 HQ2 HRQ hcsq hltq
              generalize Y1.alloc (.cells #[.slice (some ⟨q, 0, none⟩) nq nq] 23) = Y2 at *
              generalize Y1.heap.size = pL at *
              have KL0 := Lib.hid kL
              clear kL
              try simp only [zzA, zzB, zzC, Act.put, zzD, zzE, zzF]
              refine wpAnyH_ready (rs := [5]) (by kernel_rfl) (by simp) (AllReadyH.cons rfl (fun K hK => ?_) AllReadyH.nil)
              obtain ⟨fz, hmz, _⟩ := M2.out.mr
              have hcl := hmz.c0
              clear hmz
              go_simp
              refine hK.out _ _ trivial (fun _ => ?_)
              clear hK K hcl
              try simp only [zzA, zzB, zzC, Act.put, zzD, zzE, zzF]
              refine wpAnyH_ready (rs := [16]) (by kernel_rfl) (by simp) (AllReadyH.cons rfl (fun K hK => ?_) AllReadyH.nil)
              rw [if_pos (by rfl)]
              obtain ⟨vals, a1, a2, a3⟩ := M2.out.nx
              have a1 : Y2.ownsRow n1 23 1 vT (rowsD S E s).length vals := a1
              obtain ⟨i0, hi0, hz0, hz1, hz2⟩ := info_parts info_ints
              have hrl : (rowsD S E s).length ≤ 512 := by
                unfold rowsD
                rw [List.length_map, List.length_take, HFN.out]
                omega
              obtain ⟨fz, hmz, hfz⟩ := M2.out.mr
              obtain ⟨g8, c8, w8, hrun, ho8, hg8, hat8, hlt8⟩ := run_append_lies (P := Tryz.prog) Y2 31 31 n1 23 i0 (.slice none 0 0) 1 24 Tryz.underlying31 hi0 hz0 hz1 hz2 rfl (by omega) vT (rowsD S E s).length vals a1 ⟨pL, 0, none⟩ 1 1 [.slice (some ⟨q, 0, none⟩) nq nq] rfl (fun j u hu => by
                match j, hu with
                | 0, hu =>
                  simp at hu
                  subst hu
                  exact KL0.out) (by simp [Value.oneCell']) (by omega) (by simp only [maxLen]; omega) (by omega) hmz.kp.size _ rfl
              refine wp_append_of_run _ _ 31 rfl vT (.slice (some ⟨pL, 0, none⟩) 1 1) rfl rfl hrun ?_
              have hqk : w8.heap[q]? = Y2.heap[q]? := hg8.block q (Array.getElem?_eq_some_iff.1 HQ3.out).1 (fun e2 => by
                rcases a1.2 with ⟨e4, _⟩ | ⟨g4, cap4, cur4, e4, _, hg4, _⟩
                · rw [e4] at e2; exact own_none q e2.symm
                · rw [e4] at e2
                  obtain rfl : q = g4 := Option.some.inj e2
                  exact ne_typ HQ3.out hg4 (by decide) rfl)
              have hnq : nq ≤ maxLen := by
                have h1 := HZL.out
                unfold nmD at h1
                rw [List.length_map, HNL.out] at h1
                simp only [maxLen]
                have := (leasts_len E).2
                rw [HNL.out] at this
                omega
              have hrz := RowsZ.snoc (W := Y2) (W' := w8) (n1 := n1) (v := vT) (T := rowsD S E s) (ex' := fun i => vR'.ownBlock = some i ∨ False) a1 a2 a3 hg8 ho8 HZL.out (Nat.le_refl _) hnq (fun k hk => by
                obtain ⟨ad, e, hc⟩ := HRQ2.out k hk
                obtain rfl := Option.some.inj e
                exact ⟨_, rfl, cell_keep (by rw [add_block]; exact hqk) hc⟩) (fun ad e => by
                obtain rfl := Option.some.inj e
                exact ⟨hq0, fun h => h.elim HQR.out id, _, hqk.trans HQ3.out⟩) (fun i _ h => h)
              have hM9 := M2.out.nexted PL.out (v' := .slice (some ⟨g8, 0, none⟩) ((rowsD S E s).length + 1) c8) hg8 hrz (hat8.elim (fun e => Or.inl e.symm) (fun e => Or.inr (by rw [e]; rfl)))
              rw [← rows_next HZ.out OKs.out hsl] at hM9
              have hm8 := hmz.grown PL.out hg8 (fun i e => (World.ownsRow.lt a1 i e).1)
              have c0 := hm8.c0
              have z0 := hm8.free 256
              have M9 := Lib.hid hM9
              clear hM9 hrz hrun hm8 a1 a2 a3 hmz hfz
              refine hK.out _ _ trivial (fun _ => ?_)
              clear hK K
              try simp only [zzA, zzB, zzC, Act.put, zzD, zzE, zzF]
              refine wpAnyH_take (i := 17) (v := ?vzm517) rfl (by kernel_rfl) (by kernel_rfl) (by kernel_rfl) (fun _ _ _ h => h) (Or.inl ⟨by rfl, ?yzm517⟩) hHeld ?rzm517
              case yzm517 => (intro wS hSw; clear hSw; go_simp; try (with_reducible rfl))
              try simp only [zzA, zzB, zzC, Act.put, zzD, zzE, zzF]
              refine wpAnyH_take (i := 18) (v := ?vzm518) rfl (by kernel_rfl) (by kernel_rfl) (by kernel_rfl) (fun _ _ _ h => h) (Or.inl ⟨by rfl, ?yzm518⟩) hHeld ?rzm518
              case yzm518 => (intro wS hSw; clear hSw; go_simp; try (with_reducible rfl))
              try simp only [zzA, zzB, zzC, Act.put, zzD, zzE, zzF]
              refine wpAnyH_take (i := 19) (v := ?vzm519) rfl (by kernel_rfl) (by kernel_rfl) (by kernel_rfl) (fun _ _ _ h => h) (Or.inl ⟨by rfl, ?yzm519⟩) hHeld ?rzm519
              case yzm519 => (intro wS hSw; clear hSw; go_simp; try (with_reducible rfl))
              try simp only [zzA, zzB, zzC, Act.put, zzD, zzE, zzF]
              refine wpAnyH_ready (rs := [20]) (by kernel_rfl) (by simp) (AllReadyH.cons rfl (fun K hK => ?_) AllReadyH.nil)
              go_simp
              refine hK.out _ _ trivial (fun _ => ?_)
              clear hK K c0 z0
              try simp only [zzA, zzB, zzC, Act.put, zzD, zzE, zzF]
              refine wpAnyH_done (by kernel_rfl) ?_ _
              generalize w8.setCell ⟨g, 256, none⟩ (.slice (some ⟨g8, 0, none⟩) ((rowsD S E s).length + 1) c8) = w9 at *
              obtain ⟨f9, hm9, _⟩ := M9.out.mr
              obtain ⟨A9, n9, c9, e9, hfn9⟩ := M9.out.fo.form
              have e9 : vF' = .slice A9 n9 c9 := e9
              rw [List.length_map] at hfn9
              have hfn9 : (foD S E (s + 1)).length = n9 := hfn9.out
              have HF9 := Lib.hid hfn9
              subst e9
              have c69 := hm9.c6
              have hb19 : w9.heap[W.heap.size + 1]? = some (.cells dz 33 (0, 0)) := (hm9.low.block (W.heap.size + 1) (by omega)).trans K1.out
              have HB19 := Lib.hid hb19
              have HL9 := Lib.hid hm9.low
              have hn9 : n9 ≤ 1000000 := by
                have h := rowD_le S E (foD S E s)[s] (leastsE E) (foD S E s)
                rw [← fo_next S E hsl, hfn9, HFN.out] at h
                have := (leasts_len E).2
                omega
              clear hm9 hfn9 hb19
              by_cases hbig : 512 < n9
              · have hbz := build_dz
                go_wp2_with (refine wpList_store_row rfl 33 _ _ rfl (W.heap.size + 1) dz rfl rfl _ _ HB19.out (by rw [sizeD, dz_size]) rfl dz_one ?_)
                refine ⟨rfl, .tuple #[.agg dz, .int .i64 5], res_dfa rfl _ _ (W.heap.size + 1) dz _ rfl rfl (setRow_heap _ _ _ dz _ _ HB19.out) dz_size, ?_⟩
                rw [← HQ.out]
                exact ⟨bl_setRow (bl_trans B2.out HL9.out) (by omega) _, Or.inl ⟨found_many OKs.out hsl (by rw [HF9.out]; exact hbig), rfl⟩⟩
              · go_wp2_with fail
                exact ⟨⟨s + 1, rd + nl, _, _, _, by go_num, HS9.out, (by have h := (leasts_len E).2; rw [HNL.out] at h; omega), ok_next OKs.out hsl (by rw [HF9.out]; omega), M9.out⟩, by simp [intOf]; omega⟩
    · obtain ⟨A1, m1, c1, e1⟩ := Ms.out.nx.form
      have e1 : vT = .slice A1 m1 c1 := e1.1
      obtain ⟨A2, m2, c2, e2⟩ := own_slice Ms.out.ru
      have e2 : vR = .slice A2 m2 c2 := e2
      subst e1 e2
      obtain ⟨fs2, hms2, _⟩ := Ms.out.mr
      have HCS := Lib.hid (show ∀ j u, (mkT (fun c => (classE E c : Int)) [.slice A1 m1 c1, .slice A2 m2 c2]).toList[j]? = some u → wr.cell? ((⟨g, 0, none⟩ : Addr).add j) = some u from fun j u hu => by
        rw [addr_mk, Nat.zero_add, cell_of_row wr g j _ _ _ hms2.cells]
        exact mkT_head _ _ _ _ j u hu)
      clear hms2
      have hlen : (mkT (fun c => (classE E c : Int)) [.slice A1 m1 c1, .slice A2 m2 c2]).toList.length = 258 := by rw [Array.length_toList, mkT_size]; rfl
      have hone := mkT_one (fun c => (classE E c : Int)) A1 A2 m1 c1 m2 c2
      have HONE := Lib.hid hone
      clear hone
      generalize hD : mkT (fun c => (classE E c : Int)) [.slice A1 m1 c1, .slice A2 m2 c2] = dv at *
      have HDV := Lib.hid hD
      clear hD
      go_wp2_with (first | (refine wpList_load_part 33 258 _ rfl rfl ⟨g, 0, none⟩ rfl dv.toList (aggD _) (szD _) hlen HCS.out ?_) | (refine wpList_store_row rfl 33 _ _ rfl (W.heap.size + 1) dv rfl rfl _ _ HB1.out (by rw [sizeD, ← hlen, Array.length_toList]) (by rw [dz_size, ← hlen, Array.length_toList]) HONE.out ?_))
      have hdz : dv.size = 258 := by rw [← hlen, Array.length_toList]
      refine ⟨rfl, .tuple #[.agg dv, .int .i64 0], res_dfa rfl _ _ (W.heap.size + 1) dv _ rfl rfl (setRow_heap _ _ _ dv _ _ HB1.out) hdz, ?_⟩
      rw [← HQ.out]
      have hns : ¬ s < (foD S E s).length := by rw [HFN.out]; exact hlt
      have hkp : ∀ i, n1 ≤ i → (wr.setRow (W.heap.size + 1) dv).heap[i]? = wr.heap[i]? := fun i hi => setRow_other wr (W.heap.size + 1) i dv (by omega)
      obtain ⟨fs3, hms3, _⟩ := Ms.out.mr
      refine ⟨bl_setRow (bl_trans B2.out hms3.low) (by omega) _, Or.inr ⟨foD S E s, n1, _, _, (fun i => (Value.slice A2 m2 c2).ownBlock = some i ∨ False), found_end OKs.out hns, by rw [← HDV.out], by omega, ?_, ?_, fun i e => Or.inl e⟩⟩
      · rw [← rows_end hns]
        exact Ms.out.nx.keep (fun i hi => hkp i (Ms.out.nx.own i hi).1) (fun i cs h1 h2 h3 h4 => hkp i h1)
      · exact owns_keep Ms.out.ru (fun i hi => hkp i (OwnZ.own Ms.out.ru i hi).1)

end Go.Proofs.YtcgfogdfcdndgaaGreatDoor
