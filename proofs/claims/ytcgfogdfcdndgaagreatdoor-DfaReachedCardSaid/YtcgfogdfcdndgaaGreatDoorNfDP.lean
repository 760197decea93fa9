/- A walk over a net: the edges of a state that are asked for. -/
import Derived.Test.YtcgfogdfcdndgaaGreatDoorNfAP
import Derived.Deep.RegionHeld3
set_option linter.unusedVariables false
set_option linter.unusedSimpArgs false
namespace Go.Proofs.YtcgfogdfcdndgaaGreatDoor
open Go.RowKit

theorem cut_ints (b n s d : Nat) (h : s + d ≤ n) (zt : Int) (et : ((s + d : Nat) : Int) = zt) :
    ∃ A', (∀ W : World, (Instr.slice 23 (.slice (some ⟨b, 0, none⟩) n n) (some (.int .i64 (s : Int))) (some (.int .i64 zt)) none).run Tryz.prog W = .ok (.slice A' d (n - s)) W) ∧ (d ≠ 0 → A' = some ⟨b, s, none⟩) := by
  subst et
  obtain ⟨i, hi, _, hs1, _⟩ := info_parts info_int
  have he : Tryz.prog.elem 23 = 3 := by kernel_rfl
  refine ⟨if n = s then some ⟨b, 0, none⟩ else some ⟨b, s, none⟩, fun W => ?_, fun hd => if_neg (by omega)⟩
  rw [run_slice_lh W 23 (some ⟨b, 0, none⟩) n n (by rw [he]; exact Tryz.underlying23) .i64 .i64 s (s + d : Nat) (by omega) (by omega) (by omega)]
  simp [sizeOf, typeInfo, he, hi, hs1, sliced, Result.andThen, Addr.add]
  refine ⟨?_, by omega⟩
  by_cases h0 : s = 0
  · subst h0; simp
  · simp [h0]

theorem addr_mk (g o j : Nat) : (⟨g, o, none⟩ : Addr).add j = ⟨g, o + j, none⟩ := by unfold Addr.add; split <;> simp_all
theorem run_load_part (ty : TypeId) (k : Nat) (w : World) (ad : Addr) (vs : List Value) (hagg : (isAgg ty).run Tryz.prog w = .ok true w) (hsz : (sizeOf ty).run Tryz.prog w = .ok k w) (hk : vs.length = k) (h : ∀ j u, vs[j]? = some u → w.cell? (ad.add j) = some u) : (loadVar ty ad).run Tryz.prog w = .ok (.agg vs.toArray) w := by
  have hl := run_loadCells_list (P := Tryz.prog) w ad vs h
  rw [hk] at hl
  simp [loadVar, Sem.run_bind, hagg, hsz, hl]
/-- A structure out of a block's midst, whichever operation comes up first. -/
theorem yields_part {ops : Array Oper} {S : World → Prop} {op : Oper} {a : Act} (ty : TypeId) (k : Nat) (hw : Region.wanted op (yielded ops a.tmps) = true) (x : Operand) (ho : op.op = .load ty x)
    (ad : Addr) (hx : a.eval x = .pointer (some ad)) (vs : List Value) (hagg : ∀ w, (isAgg ty).run Tryz.prog w = .ok true w) (hsz : ∀ w, (sizeOf ty).run Tryz.prog w = .ok k w) (hk : vs.length = k) (hS : ∀ w, S w → ∀ j u, vs[j]? = some u → w.cell? (ad.add j) = some u) : YieldsIf Tryz.prog ops S op (.agg vs.toArray) a :=
  .inl ⟨hw, fun w hw' => by
    unfold execOp
    simp only [ho, hx, Instr.loadAt, Instr.sureAddr, Sem.run_bind, Sem.run_pure, Result.andThen_ok, run_load_part ty k w ad vs (hagg w) (hsz w) hk (hS w hw')]⟩
theorem agg_st (w : World) : (isAgg 51).run Tryz.prog w = .ok true w := by kernel_rfl
theorem sz_st (w : World) : (sizeOf 51).run Tryz.prog w = .ok 4 w := by kernel_rfl

/-- The edge at a place lies so. -/
def EdAt (W : World) (ad : Addr) (e : Ed) : Prop := ∀ j u, (cellsE e)[j]? = some u → W.cell? (ad.add j) = some u
theorem EdAt.below {W W' : World} {ad : Addr} {e : Ed} (h : EdAt W ad e) (hb : Below W.heap.size W W') : EdAt W' ad e := fun j u hu => (hb.cell (World.block_lt_of_cell? W _ (h j u hu))).trans (h j u hu)
theorem EdAt.words {W : World} {ad : Addr} {e : Ed} (h : EdAt W ad e) : ∀ j u, [dv e.set.w0, dv e.set.w1, dv e.set.w2, dv e.set.w3][j]? = some u → W.cell? ((⟨ad.block, ad.off + 2, none⟩ : Addr).add j) = some u := by
  intro j u hu
  match j, hu with
  | 0, hu => exact h 2 u hu
  | 1, hu => exact h 3 u hu
  | 2, hu => exact h 4 u hu
  | 3, hu => exact h 5 u hu
  | j + 4, hu => simp at hu
set_option maxRecDepth 20000 in
theorem free_any (ad : Addr) (e : Ed) (W : World) (h : EdAt W ad e) : Calls Tryz.prog 73 #[.pointer (some ad)] W (fun x W' => x = .returned (.bool e.free) ∧ Below W.heap.size W W') := by
  have h6 : W.cell? (ad.add 6) = some (.bool e.free) := h 6 _ rfl
  have h6' : W.cell? ⟨ad.block, ad.off + 6, none⟩ = some (.bool e.free) := by rw [← h6]; rfl
  clear h
  go_enter Tryz.func73, Tryz.ntmps73
  go_wp2_with fail
  go_ret
  exact ⟨rfl, Below.refl _ _⟩
set_option maxRecDepth 20000 in
set_option maxHeartbeats 1000000 in
theorem byte_any (c : Nat) (hc : c < 256) (b : Nat) (ad : Addr) (e : Ed) (W : World) (h : EdAt W ad e) (hB : W.heap[b]? = some (.cells #[.int .u8 (c : Int)] 5 (0, 0))) :
    Calls Tryz.prog 74 #[.pointer (some ad), .pointer (some ⟨b, 0, none⟩)] W (fun x W' => x = .returned (.bool (byE c e)) ∧ Below W.heap.size W W') := by
  have HB0 := Lib.hid hB
  have HE := Lib.hid h
  clear h hB
  go_enter Tryz.func74, Tryz.ntmps74
  go_wp2_with fail
  refine wp_region_held_drew (S := fun W1 => Below W.heap.size W W1) (by kernel_rfl) (bl_drewN (Below.refl _ _) 1) (fun hHeld => ?_)
  try simp only [zzA, zzB, zzC, Act.put, zzD, zzE, zzF]
  refine wpAnyH_take (i := 0) (v := ?vzh0) rfl (by kernel_rfl) (by kernel_rfl) (by kernel_rfl) (fun _ _ _ h => h) (Or.inl ⟨by rfl, ?yzh0⟩) hHeld ?rzh0
  case yzh0 => (intro wS hSw; clear hSw; go_simp; try (with_reducible rfl))
  try simp only [zzA, zzB, zzC, Act.put, zzD, zzE, zzF]
  refine wpAnyH_take (i := 1) (v := ?vzh1) rfl (by kernel_rfl) (by kernel_rfl) (by kernel_rfl) (fun _ _ _ h => h) (Or.inl ⟨by rfl, ?yzh1⟩) hHeld ?rzh1
  case yzh1 => (intro wS hSw; clear hSw; go_simp; try (with_reducible rfl))
  try simp only [zzA, zzB, zzC, Act.put, zzD, zzE, zzF]
  refine wpAnyH_take (i := 2) (v := ?vzh2) rfl (by kernel_rfl) (by kernel_rfl) (by kernel_rfl) (fun _ _ _ h => h) (Or.inl ⟨by rfl, ?yzh2⟩) hHeld ?rzh2
  case yzh2 => (intro wS hSw; clear hSw; go_simp; try (with_reducible rfl))
  try simp only [zzA, zzB, zzC, Act.put, zzD, zzE, zzF]
  refine wpAnyH_take (i := 3) (v := .agg (row4 e.set.f)) rfl (by kernel_rfl) (by kernel_rfl) (by kernel_rfl) (fun _ _ _ h => h) (yields_part 51 4 (by rfl) (.tmp 6) rfl ⟨ad.block, ad.off + 2, none⟩ rfl [dv e.set.w0, dv e.set.w1, dv e.set.w2, dv e.set.w3] agg_st sz_st rfl (fun W1 hW j u hu => (HE.out.below hW).words j u hu)) hHeld ?_
  try simp only [zzA, zzB, zzC, Act.put, zzD, zzE, zzF]
  refine wpAnyH_take (i := 4) (v := ?vzh4) rfl (by kernel_rfl) (by kernel_rfl) (by kernel_rfl) (fun _ _ _ h => h) (Or.inl ⟨by rfl, ?yzh4⟩) hHeld ?rzh4
  case yzh4 => (intro wS hSw; have q := cell_of_row wS b 0 _ _ _ ((hSw.block b (Array.getElem?_eq_some_iff.1 HB0.out).1).trans HB0.out); clear hSw; go_simp; try (with_reducible rfl))
  try simp only [zzA, zzB, zzC, Act.put, zzD, zzE, zzF]
  refine wpAnyH_ready (rs := [5]) (by kernel_rfl) (by simp) (AllReadyH.cons rfl (fun K hK => ?_) AllReadyH.nil)
  try rw [if_pos (by rfl)]
  go_simp
  go_at_call 59
  refine (has_any e.set.f c hc _).mono ?_
  rintro x W2 ⟨rfl, hb2⟩
  have hS1 := bl_trans hHeld hb2
  clear hHeld hb2
  go_wp2_with fail
  refine hK.out _ _ hS1 (fun hHeld => ?_)
  clear hK K hS1
  try simp only [zzA, zzB, zzC, Act.put, zzD, zzE, zzF]
  refine wpAnyH_take (i := 6) (v := ?vzh6) rfl (by kernel_rfl) (by kernel_rfl) (by kernel_rfl) (fun _ _ _ h => h) (Or.inl ⟨by rfl, ?yzh6⟩) hHeld ?rzh6
  case yzh6 => (intro wS hSw; clear hSw; go_simp; try (with_reducible rfl))
  try simp only [zzA, zzB, zzC, Act.put, zzD, zzE, zzF]
  refine wpAnyH_done (by kernel_rfl) ?_ _
  have HBX := Lib.hid hHeld
  clear hHeld
  go_wp2_with fail
  go_ret
  exact ⟨rfl, HBX.out⟩

end Go.Proofs.YtcgfogdfcdndgaaGreatDoor

/- A walk over a net: those that edges of a state lead to. -/
set_option linter.unusedVariables false
set_option linter.unusedSimpArgs false
namespace Go.Proofs.YtcgfogdfcdndgaaGreatDoor
open Go.RowKit

theorem wrap_nat (n : Nat) (h : n ≤ 100000) : IntKind.i64.wrap (n : Int) = (n : Int) := IntWalk.i64_in _ (by omega)
theorem MapF.at {W W' : World} {gm B S : Nat} {f : Nat → Nat} (h : MapF W gm B S f) (hh : W'.heap[gm]? = W.heap[gm]?) : MapF W' gm B S f := by
  obtain ⟨n, D, h1, h2, ⟨es, ck, e1, e2⟩, h4⟩ := h
  exact ⟨n, D, h1, h2, ⟨es, ck, hh.trans e1, e2⟩, h4⟩
section
variable {W0 W W' : World} {n1 g gm gb gp S : Nat} {Ae : Option Addr} {ne ce : Nat} {E : List Ed} {Xv : Value} {fb fp : Nat → Nat} {rd : Nat} {f : Nat → Nat} {l : List Nat} {v : Value}
theorem WkS.then (h : WkS W0 n1 g gm gb gp S Ae ne ce Xv fb fp rd f l W) (st : Sta W0 n1 g gm gb gp S Ae ne ce E fb fp) (hb : Below W.heap.size W W') : WkS W0 n1 g gm gb gp S Ae ne ce Xv fb fp rd f l W' := by
  have kp : ∀ b, b < n1 → W'.heap[b]? = W.heap[b]? := fun b hb' => hb.block b (by have := h.sz; omega)
  exact ⟨(kp g st.ug).trans h.cells, h.map.at (kp gm st.um), h.now, (kp gb st.ub).trans h.hb, (kp gp st.up).trans h.hp, bl_trans h.below hb, h.nd, h.inn, Nat.le_trans h.sz hb.size⟩
theorem OwnI.below {base : Nat} (h : OwnI W base v l) (hb : Below W.heap.size W W') : OwnI W' base v l := World.ownsRow.kept h (grown_of_below hb none) (by cases v.ownBlock <;> simp)
theorem Now.then (h : Now W0 n1 g gm gb gp S Ae ne ce Xv fb fp rd v l W) (st : Sta W0 n1 g gm gb gp S Ae ne ce E fb fp) (hb : Below W.heap.size W W') : Now W0 n1 g gm gb gp S Ae ne ce Xv fb fp rd v l W' := by
  obtain ⟨h1, f, h2⟩ := h
  exact ⟨h1.below hb, f, h2.then st hb⟩
theorem Fr.of_below {g gm : Nat} (hb : Below W.heap.size W W') : Fr g gm v W W' := ⟨hb.size, fun i hi _ _ _ => hb.block i hi⟩
end

set_option maxRecDepth 100000 in
set_option maxHeartbeats 8000000 in
theorem follow_free {W0 : World} {n1 g gm gb gp S : Nat} {Ae : Option Addr} {ne ce : Nat} {E : List Ed} {Xv : Value} {fb fp : Nat → Nat} (st : Sta W0 n1 g gm gb gp S Ae ne ce E fb fp)
    (rd : Nat) (hrd : rd < 100000) (l : List Nat) (v : Value) (s : Nat) (hs : s < S) (W : World) (h : Now W0 n1 g gm gb gp S Ae ne ce Xv fb fp rd v l W) :
    Calls Tryz.prog 72 #[.pointer (some ⟨g, 0, none⟩), v, .int .i64 (s : Int), .func (.func 73) #[] #[]] W
      (GotLs (Now W0 n1 g gm gb gp S Ae ne ce Xv fb fp rd) g gm v W (followE E (fun e => e.free) l s)) := by
  generalize hQ : GotLs (Now W0 n1 g gm gb gp S Ae ne ce Xv fb fp rd) g gm v W (followE E (fun e => e.free) l s) = Q
  have HQ := Lib.hid hQ
  obtain ⟨ho, f, h⟩ := h
  obtain ⟨b1, b2, b3, b4⟩ := st.bg s hs
  have k3 := h.c3
  have k4 := h.c4
  have j1 := h.hb.cell (show s < S + 1 by omega)
  have j2 := h.hb.cell (show s + 1 < S + 1 by omega)
  obtain ⟨d, hd⟩ : ∃ d, fb (s + 1) - fb s = d := ⟨_, rfl⟩
  obtain ⟨p0, hp0⟩ : ∃ p, fb s = p := ⟨_, rfl⟩
  have hp1 : fb (s + 1) = p0 + d := by omega
  rw [hp1] at j2
  rw [hp0] at j1 b4
  obtain ⟨A', hcut, hA'⟩ := cut_ints gp ne p0 d (by omega) ((p0 + d : Nat) : Int) rfl
  have hs1 : (s : Int) + 1 = ((s + 1 : Nat) : Int) := by omega
  obtain ⟨s1, hs1'⟩ : ∃ x, s + 1 = x := ⟨_, rfl⟩
  rw [hs1'] at hs1 j2
  obtain ⟨pe, hpe⟩ : ∃ x, p0 + d = x := ⟨_, rfl⟩
  rw [hpe] at hcut j2
  have hpen : pe ≤ ne := by omega
  have hd9 : d ≤ 8192 := by have := st.e2; omega
  have hppe : p0 ≤ pe := by omega
  have hsS : s1 ≤ S := by omega
  have hsi : (s : Int) < (S : Int) + 1 := by omega
  have hsi2 : (s1 : Int) < (S : Int) + 1 := by omega
  have hw1 : IntKind.i64.wrap (s1 : Int) = (s1 : Int) := wrap_nat s1 (by have := st.s2; omega)
  have HO := Lib.hid ho
  have HW := Lib.hid h
  have B4 := Lib.hid b4
  have BL := Lib.hid (show (outsE E s).length = d by omega)
  have HA := Lib.hid hA'
  have SS := Lib.hid st.s2
  clear hQ ho h b1 b2 b3 b4 hA'
  go_enter Tryz.func72, Tryz.ntmps72
  go_wp2_with fail
  refine wp_region_held_drew (S := WkS W0 n1 g gm gb gp S Ae ne ce Xv fb fp rd f l) (by kernel_rfl) HW.out.drew (fun hHeld => ?_)
  try simp only [zzA, zzB, zzC, Act.put, zzD, zzE, zzF]
  refine wpAnyH_take (i := 0) (v := ?vzff0) rfl (by kernel_rfl) (by kernel_rfl) (by kernel_rfl) (fun _ _ _ h => h) (Or.inl ⟨by rfl, ?yzff0⟩) hHeld ?rzff0
  case yzff0 => (intro wS hSw; clear hSw; go_simp; try (with_reducible rfl))
  try simp only [zzA, zzB, zzC, Act.put, zzD, zzE, zzF]
  refine wpAnyH_take (i := 1) (v := ?vzff1) rfl (by kernel_rfl) (by kernel_rfl) (by kernel_rfl) (fun _ _ _ h => h) (Or.inl ⟨by rfl, ?yzff1⟩) hHeld ?rzff1
  case yzff1 => (intro wS hSw; clear hSw; go_simp; try (with_reducible rfl))
  try simp only [zzA, zzB, zzC, Act.put, zzD, zzE, zzF]
  refine wpAnyH_take (i := 2) (v := ?vzff2) rfl (by kernel_rfl) (by kernel_rfl) (by kernel_rfl) (fun _ _ _ h => h) (Or.inl ⟨by rfl, ?yzff2⟩) hHeld ?rzff2
  case yzff2 => (intro wS hSw; clear hSw; go_simp; try (with_reducible rfl))
  try simp only [zzA, zzB, zzC, Act.put, zzD, zzE, zzF]
  refine wpAnyH_take (i := 3) (v := ?vzff3) rfl (by kernel_rfl) (by kernel_rfl) (by kernel_rfl) (fun _ _ _ h => h) (Or.inl ⟨by rfl, ?yzff3⟩) hHeld ?rzff3
  case yzff3 => (intro wS hSw; clear hSw; go_simp; try (with_reducible rfl))
  try simp only [zzA, zzB, zzC, Act.put, zzD, zzE, zzF]
  refine wpAnyH_take (i := 4) (v := ?vzff4) rfl (by kernel_rfl) (by kernel_rfl) (by kernel_rfl) (fun _ _ _ h => h) (Or.inl ⟨by rfl, ?yzff4⟩) hHeld ?rzff4
  case yzff4 => (intro wS hSw; have q := hSw.c4; clear hSw; go_simp; try (with_reducible rfl))
  try simp only [zzA, zzB, zzC, Act.put, zzD, zzE, zzF]
  refine wpAnyH_take (i := 5) (v := ?vzff5) rfl (by kernel_rfl) (by kernel_rfl) (by kernel_rfl) (fun _ _ _ h => h) (Or.inl ⟨by rfl, ?yzff5⟩) hHeld ?rzff5
  case yzff5 => (intro wS hSw; clear hSw; go_simp; try (with_reducible rfl))
  try simp only [zzA, zzB, zzC, Act.put, zzD, zzE, zzF]
  refine wpAnyH_take (i := 6) (v := ?vzff6) rfl (by kernel_rfl) (by kernel_rfl) (by kernel_rfl) (fun _ _ _ h => h) (Or.inl ⟨by rfl, ?yzff6⟩) hHeld ?rzff6
  case yzff6 => (intro wS hSw; clear hSw; go_simp; try (with_reducible rfl))
  try simp only [zzA, zzB, zzC, Act.put, zzD, zzE, zzF]
  refine wpAnyH_take (i := 7) (v := ?vzff7) rfl (by kernel_rfl) (by kernel_rfl) (by kernel_rfl) (fun _ _ _ h => h) (Or.inl ⟨by rfl, ?yzff7⟩) hHeld ?rzff7
  case yzff7 => (intro wS hSw; clear hSw; go_simp; try (with_reducible rfl))
  try simp only [zzA, zzB, zzC, Act.put, zzD, zzE, zzF]
  refine wpAnyH_take (i := 8) (v := ?vzff8) rfl (by kernel_rfl) (by kernel_rfl) (by kernel_rfl) (fun _ _ _ h => h) (Or.inl ⟨by rfl, ?yzff8⟩) hHeld ?rzff8
  case yzff8 => (intro wS hSw; clear hSw; go_simp; try (with_reducible rfl))
  try simp only [zzA, zzB, zzC, Act.put, zzD, zzE, zzF]
  refine wpAnyH_take (i := 9) (v := ?vzff9) rfl (by kernel_rfl) (by kernel_rfl) (by kernel_rfl) (fun _ _ _ h => h) (Or.inl ⟨by rfl, ?yzff9⟩) hHeld ?rzff9
  case yzff9 => (intro wS hSw; have q := hSw.c3; clear hSw; go_simp; try (with_reducible rfl))
  try simp only [zzA, zzB, zzC, Act.put, zzD, zzE, zzF]
  refine wpAnyH_take (i := 10) (v := ?vzff10) rfl (by kernel_rfl) (by kernel_rfl) (by kernel_rfl) (fun _ _ _ h => h) (Or.inl ⟨by rfl, ?yzff10⟩) hHeld ?rzff10
  case yzff10 => (intro wS hSw; clear hSw; go_simp; try (with_reducible rfl))
  try simp only [zzA, zzB, zzC, Act.put, zzD, zzE, zzF]
  refine wpAnyH_take (i := 11) (v := ?vzff11) rfl (by kernel_rfl) (by kernel_rfl) (by kernel_rfl) (fun _ _ _ h => h) (Or.inl ⟨by rfl, ?yzff11⟩) hHeld ?rzff11
  case yzff11 => (intro wS hSw; clear hSw; go_simp; try (with_reducible rfl))
  try simp only [zzA, zzB, zzC, Act.put, zzD, zzE, zzF]
  refine wpAnyH_take (i := 12) (v := ?vzff12) rfl (by kernel_rfl) (by kernel_rfl) (by kernel_rfl) (fun _ _ _ h => h) (Or.inl ⟨by rfl, ?yzff12⟩) hHeld ?rzff12
  case yzff12 => (intro wS hSw; have q := hSw.hb.cell (show s < S + 1 by omega); rw [hp0] at q; clear hSw; go_simp; try (with_reducible rfl))
  try simp only [zzA, zzB, zzC, Act.put, zzD, zzE, zzF]
  refine wpAnyH_take (i := 13) (v := ?vzff13) rfl (by kernel_rfl) (by kernel_rfl) (by kernel_rfl) (fun _ _ _ h => h) (Or.inl ⟨by rfl, ?yzff13⟩) hHeld ?rzff13
  case yzff13 => (intro wS hSw; clear hSw; go_simp; try (with_reducible rfl))
  try simp only [zzA, zzB, zzC, Act.put, zzD, zzE, zzF]
  refine wpAnyH_take (i := 14) (v := ?vzff14) rfl (by kernel_rfl) (by kernel_rfl) (by kernel_rfl) (fun _ _ _ h => h) (Or.inl ⟨by rfl, ?yzff14⟩) hHeld ?rzff14
  case yzff14 => (intro wS hSw; clear hSw; go_simp; try (with_reducible rfl))
  try simp only [zzA, zzB, zzC, Act.put, zzD, zzE, zzF]
  refine wpAnyH_take (i := 15) (v := ?vzff15) rfl (by kernel_rfl) (by kernel_rfl) (by kernel_rfl) (fun _ _ _ h => h) (Or.inl ⟨by rfl, ?yzff15⟩) hHeld ?rzff15
  case yzff15 => (intro wS hSw; clear hSw; go_simp; try (with_reducible rfl))
  try simp only [zzA, zzB, zzC, Act.put, zzD, zzE, zzF]
  refine wpAnyH_take (i := 16) (v := ?vzff16) rfl (by kernel_rfl) (by kernel_rfl) (by kernel_rfl) (fun _ _ _ h => h) (Or.inl ⟨by rfl, ?yzff16⟩) hHeld ?rzff16
  case yzff16 => (intro wS hSw; clear hSw; go_simp; try (with_reducible rfl))
  try simp only [zzA, zzB, zzC, Act.put, zzD, zzE, zzF]
  refine wpAnyH_take (i := 17) (v := ?vzff17) rfl (by kernel_rfl) (by kernel_rfl) (by kernel_rfl) (fun _ _ _ h => h) (Or.inl ⟨by rfl, ?yzff17⟩) hHeld ?rzff17
  case yzff17 => (intro wS hSw; have q := hSw.c3; clear hSw; go_simp; try (with_reducible rfl))
  try simp only [zzA, zzB, zzC, Act.put, zzD, zzE, zzF]
  refine wpAnyH_take (i := 18) (v := ?vzff18) rfl (by kernel_rfl) (by kernel_rfl) (by kernel_rfl) (fun _ _ _ h => h) (Or.inl ⟨by rfl, ?yzff18⟩) hHeld ?rzff18
  case yzff18 => (intro wS hSw; clear hSw; go_simp; try (with_reducible rfl))
  try simp only [zzA, zzB, zzC, Act.put, zzD, zzE, zzF]
  refine wpAnyH_take (i := 19) (v := ?vzff19) rfl (by kernel_rfl) (by kernel_rfl) (by kernel_rfl) (fun _ _ _ h => h) (Or.inl ⟨by rfl, ?yzff19⟩) hHeld ?rzff19
  case yzff19 => (intro wS hSw; clear hSw; go_simp; try (with_reducible rfl))
  try simp only [zzA, zzB, zzC, Act.put, zzD, zzE, zzF]
  refine wpAnyH_take (i := 20) (v := ?vzff20) rfl (by kernel_rfl) (by kernel_rfl) (by kernel_rfl) (fun _ _ _ h => h) (Or.inl ⟨by rfl, ?yzff20⟩) hHeld ?rzff20
  case yzff20 => (intro wS hSw; clear hSw; go_simp; try (with_reducible rfl))
  try simp only [zzA, zzB, zzC, Act.put, zzD, zzE, zzF]
  refine wpAnyH_take (i := 21) (v := ?vzff21) rfl (by kernel_rfl) (by kernel_rfl) (by kernel_rfl) (fun _ _ _ h => h) (Or.inl ⟨by rfl, ?yzff21⟩) hHeld ?rzff21
  case yzff21 => (intro wS hSw; have q := hSw.hb.cell (show s1 < S + 1 by omega); rw [← hs1', hp1, hpe, hs1'] at q; clear hSw; go_simp; try (with_reducible rfl))
  try simp only [zzA, zzB, zzC, Act.put, zzD, zzE, zzF]
  refine wpAnyH_take (i := 22) (v := ?vzff22) rfl (by kernel_rfl) (by kernel_rfl) (by kernel_rfl) (fun _ _ _ h => h) (Or.inl ⟨by rfl, ?yzff22⟩) hHeld ?rzff22
  case yzff22 => (intro wS hSw; clear hSw; go_simp; try (with_reducible rfl))
  try simp only [zzA, zzB, zzC, Act.put, zzD, zzE, zzF]
  refine wpAnyH_take (i := 23) (v := ?vzff23) rfl (by kernel_rfl) (by kernel_rfl) (by kernel_rfl) (fun _ _ _ h => h) (Or.inl ⟨by rfl, ?yzff23⟩) hHeld ?rzff23
  case yzff23 => (intro wS hSw; clear hSw; go_simp; try (with_reducible rfl))
  try simp only [zzA, zzB, zzC, Act.put, zzD, zzE, zzF]
  refine wpAnyH_take (i := 24) (v := ?vzff24) rfl (by kernel_rfl) (by kernel_rfl) (by kernel_rfl) (fun _ _ _ h => h) (Or.inl ⟨by rfl, ?yzff24⟩) hHeld ?rzff24
  case yzff24 => (intro wS hSw; clear hSw; go_simp; try (with_reducible rfl))
  try simp only [zzA, zzB, zzC, Act.put, zzD, zzE, zzF]
  refine wpAnyH_done (by kernel_rfl) ?_ _
  have H1 := Lib.hid (show Now W0 n1 g gm gb gp S Ae ne ce Xv fb fp rd v l W.drew from ⟨HO.out, f, hHeld⟩)
  have FR1 := Lib.hid (show Fr g gm v W W.drew from ⟨Nat.le_refl _, fun _ _ _ _ _ => rfl⟩)
  clear hHeld HW HO hw1 hcut hsi hsi2 hs1 k3 k4 j1 j2
  generalize W.drew = W1 at *
  go_wp2_with fail
  go_loopw [1, 36] (fun vl vi wr => ∃ j : Nat, j ≤ d ∧ vi = .int .i64 (j : Int) ∧ Hid (Now W0 n1 g gm gb gp S Ae ne ce Xv fb fp rd vl (((outsE E s).take j).foldl (goE (fun e => e.free)) l) wr) ∧ Hid (Fr g gm v W wr) ∧ Hid (∀ i, vl.ownBlock = some i → v.ownBlock = some i ∨ W.heap.size ≤ i)) (fun _ vi _ => d - (intOf vi).toNat)
  case atStart => exact ⟨0, Nat.zero_le _, rfl, H1.out, FR1.out, fun i e => Or.inl e⟩
  case round =>
    obtain ⟨j, hj, rfl, NWJ, FRJ, NEW⟩ := hrel
    clear H1 FR1
    by_cases hlt : j < d
    · have hjl : j < (outsE E s).length := by rw [BL.out]; exact hlt
      obtain ⟨hpl, hpe2⟩ := B4.out j hjl
      obtain rfl : A' = some ⟨gp, p0, none⟩ := HA.out (by omega)
      have hmem : (outsE E s)[j] ∈ E := by rw [← hpe2]; exact List.getElem_mem hpl
      obtain ⟨x1, x2, x3, x4, x5⟩ := st.ed _ hmem
      have TK := Lib.hid (show ((outsE E s).take (j + 1)).foldl (goE (fun e => e.free)) l = goE (fun e => e.free) (((outsE E s).take j).foldl (goE (fun e => e.free)) l) (outsE E s)[j] by rw [List.take_succ_eq_append_getElem hjl, List.foldl_append]; rfl)
      obtain ⟨hoj, fj, hwj⟩ := NWJ.out
      have m1 := hwj.c1
      have m2 := hwj.hp.cell (show p0 + j < ne by omega)
      obtain ⟨ad, hAe, hcs⟩ := (st.re.below (hwj.below)) _ hpl
      have hed0 : EdAt wr (ad.add (fp (p0 + j) * 7)) (outsE E s)[j] := fun i u hu => hcs i u (by rw [hpe2]; exact hu)
      have hte : (outsE E s)[j].tn < S := by unfold Ed.tn; omega
      have htn : (outsE E s)[j].to = ((outsE E s)[j].tn : Int) := by unfold Ed.tn; omega
      have hpn : fp (p0 + j) < ne := by rw [← st.en]; exact hpl
      clear hcs hpe2 hmem x1 x2 x3 x4 x5 hoj hwj
      generalize (outsE E s)[j] = e at *
      clear hjl hpl
      generalize fp (p0 + j) = p at *
      generalize ((outsE E s).take j).foldl (goE (fun e => e.free)) l = lj at *
      have hpi : (p : Int) < (ne : Int) := by omega
      have ED := Lib.hid hed0
      clear hed0
      subst hAe
      go_wp2_with fail
      refine (free_any _ e _ ED.out).mono ?_
      rintro x w2 ⟨rfl, hb2⟩
      have N2 := Lib.hid (NWJ.out.then st hb2)
      have F2 := Lib.hid (FRJ.out.trans (Fr.of_below (v := u1) (g := g) (gm := gm) hb2) NEW.out)
      have t1 : w2.cell? ((ad.add (p * 7)).add 1) = some (.int .i64 e.to) := ED.out.below hb2 1 _ rfl
      rw [htn] at t1
      have t2 : w2.cell? ⟨(ad.add (p * 7)).block, (ad.add (p * 7)).off + 1, none⟩ = some (.int .i64 (e.tn : Int)) := t1
      have NE2 := Lib.hid NEW.out
      have SZ2 := Lib.hid (Nat.le_trans FRJ.out.size hb2.size)
      clear hb2 NWJ FRJ NEW m1 m2 ED
      obtain ⟨qb, hqb⟩ : ∃ b, ((fun e => e.free) e : Bool) = b := ⟨_, rfl⟩
      have TG := Lib.hid (show goE (fun e => e.free) lj e = if qb then reachE lj e.tn else lj by simp only [goE, hqb])
      rw [show e.free = qb from hqb]
      clear hqb
      cases qb with
      | true =>
        go_wp2_with fail
        obtain ⟨ho2, f2, hw2⟩ := N2.out
        refine (reach_any st rd hrd f2 lj u1 e.tn hte w2 hw2 ho2).mono ?_
        rintro x w3 ⟨v3, rfl, n3, fr3, new3⟩
        have N3 := Lib.hid n3
        have F3 := Lib.hid (F2.out.trans fr3 NE2.out)
        have NE3 := Lib.hid (show ∀ i, v3.ownBlock = some i → v.ownBlock = some i ∨ W.heap.size ≤ i from fun i hi => (new3 i hi).elim (fun h => NE2.out i h) (fun h => Or.inr (Nat.le_trans SZ2.out h)))
        clear ho2 hw2 n3 fr3 new3 t1 t2 N2 F2 NE2
        go_wp2_with fail
        refine ⟨⟨j + 1, by omega, by go_num, ?_, F3.out, NE3.out⟩, by simp [intOf]; omega⟩
        unfold Hid
        rw [TK.out, TG.out]
        simp only [if_true]
        exact N3.out
      | false =>
        go_wp2_with fail
        refine ⟨⟨j + 1, by omega, by go_num, ?_, F2.out, NE2.out⟩, by simp [intOf]; omega⟩
        unfold Hid
        rw [TK.out, TG.out]
        simp only [Bool.false_eq_true, if_false]
        exact N2.out
    · obtain rfl : j = d := by omega
      have hall : ((outsE E s).take j).foldl (goE (fun e => e.free)) l = followE E (fun e => e.free) l s := by rw [List.take_of_length_le (by rw [BL.out]; omega)]; rfl
      rw [hall] at NWJ
      go_wp2_with fail
      refine post_is HQ ?_
      exact ⟨_, rfl, NWJ.out, FRJ.out, NEW.out⟩

set_option maxRecDepth 100000 in
set_option maxHeartbeats 8000000 in
theorem follow_byte {W0 : World} {n1 g gm gb gp S : Nat} {Ae : Option Addr} {ne ce : Nat} {E : List Ed} {Xv : Value} {fb fp : Nat → Nat} (st : Sta W0 n1 g gm gb gp S Ae ne ce E fb fp)
    (rd : Nat) (hrd : rd < 100000) (ch : Nat) (hch : ch < 256) (bx : Nat) (l : List Nat) (v : Value) (s : Nat) (hs : s < S) (W : World) (h : Now W0 n1 g gm gb gp S Ae ne ce Xv fb fp rd v l W) (hbx : W.heap[bx]? = some (.cells #[.int .u8 (ch : Int)] 5 (0, 0))) (hbg : bx ≠ g ∧ bx ≠ gm) (hbv : v.ownBlock ≠ some bx) :
    Calls Tryz.prog 72 #[.pointer (some ⟨g, 0, none⟩), v, .int .i64 (s : Int), .func (.func 74) #[] #[.pointer (some ⟨bx, 0, none⟩)]] W
      (GotLs (Now W0 n1 g gm gb gp S Ae ne ce Xv fb fp rd) g gm v W (followE E (byE ch) l s)) := by
  generalize hQ : GotLs (Now W0 n1 g gm gb gp S Ae ne ce Xv fb fp rd) g gm v W (followE E (byE ch) l s) = Q
  have HQ := Lib.hid hQ
  obtain ⟨ho, f, h⟩ := h
  obtain ⟨b1, b2, b3, b4⟩ := st.bg s hs
  have k3 := h.c3
  have k4 := h.c4
  have j1 := h.hb.cell (show s < S + 1 by omega)
  have j2 := h.hb.cell (show s + 1 < S + 1 by omega)
  obtain ⟨d, hd⟩ : ∃ d, fb (s + 1) - fb s = d := ⟨_, rfl⟩
  obtain ⟨p0, hp0⟩ : ∃ p, fb s = p := ⟨_, rfl⟩
  have hp1 : fb (s + 1) = p0 + d := by omega
  rw [hp1] at j2
  rw [hp0] at j1 b4
  obtain ⟨A', hcut, hA'⟩ := cut_ints gp ne p0 d (by omega) ((p0 + d : Nat) : Int) rfl
  have hs1 : (s : Int) + 1 = ((s + 1 : Nat) : Int) := by omega
  obtain ⟨s1, hs1'⟩ : ∃ x, s + 1 = x := ⟨_, rfl⟩
  rw [hs1'] at hs1 j2
  obtain ⟨pe, hpe⟩ : ∃ x, p0 + d = x := ⟨_, rfl⟩
  rw [hpe] at hcut j2
  have hpen : pe ≤ ne := by omega
  have hd9 : d ≤ 8192 := by have := st.e2; omega
  have hppe : p0 ≤ pe := by omega
  have hsS : s1 ≤ S := by omega
  have hsi : (s : Int) < (S : Int) + 1 := by omega
  have hsi2 : (s1 : Int) < (S : Int) + 1 := by omega
  have hw1 : IntKind.i64.wrap (s1 : Int) = (s1 : Int) := wrap_nat s1 (by have := st.s2; omega)
  have HO := Lib.hid ho
  have HW := Lib.hid h
  have B4 := Lib.hid b4
  have BL := Lib.hid (show (outsE E s).length = d by omega)
  have HA := Lib.hid hA'
  have SS := Lib.hid st.s2
  have HBX := Lib.hid hbx
  have HBV := Lib.hid hbv
  clear hbx hbv
  clear hQ ho h b1 b2 b3 b4 hA'
  go_enter Tryz.func72, Tryz.ntmps72
  go_wp2_with fail
  refine wp_region_held_drew (S := WkS W0 n1 g gm gb gp S Ae ne ce Xv fb fp rd f l) (by kernel_rfl) HW.out.drew (fun hHeld => ?_)
  try simp only [zzA, zzB, zzC, Act.put, zzD, zzE, zzF]
  refine wpAnyH_take (i := 0) (v := ?vzfb0) rfl (by kernel_rfl) (by kernel_rfl) (by kernel_rfl) (fun _ _ _ h => h) (Or.inl ⟨by rfl, ?yzfb0⟩) hHeld ?rzfb0
  case yzfb0 => (intro wS hSw; clear hSw; go_simp; try (with_reducible rfl))
  try simp only [zzA, zzB, zzC, Act.put, zzD, zzE, zzF]
  refine wpAnyH_take (i := 1) (v := ?vzfb1) rfl (by kernel_rfl) (by kernel_rfl) (by kernel_rfl) (fun _ _ _ h => h) (Or.inl ⟨by rfl, ?yzfb1⟩) hHeld ?rzfb1
  case yzfb1 => (intro wS hSw; clear hSw; go_simp; try (with_reducible rfl))
  try simp only [zzA, zzB, zzC, Act.put, zzD, zzE, zzF]
  refine wpAnyH_take (i := 2) (v := ?vzfb2) rfl (by kernel_rfl) (by kernel_rfl) (by kernel_rfl) (fun _ _ _ h => h) (Or.inl ⟨by rfl, ?yzfb2⟩) hHeld ?rzfb2
  case yzfb2 => (intro wS hSw; clear hSw; go_simp; try (with_reducible rfl))
  try simp only [zzA, zzB, zzC, Act.put, zzD, zzE, zzF]
  refine wpAnyH_take (i := 3) (v := ?vzfb3) rfl (by kernel_rfl) (by kernel_rfl) (by kernel_rfl) (fun _ _ _ h => h) (Or.inl ⟨by rfl, ?yzfb3⟩) hHeld ?rzfb3
  case yzfb3 => (intro wS hSw; clear hSw; go_simp; try (with_reducible rfl))
  try simp only [zzA, zzB, zzC, Act.put, zzD, zzE, zzF]
  refine wpAnyH_take (i := 4) (v := ?vzfb4) rfl (by kernel_rfl) (by kernel_rfl) (by kernel_rfl) (fun _ _ _ h => h) (Or.inl ⟨by rfl, ?yzfb4⟩) hHeld ?rzfb4
  case yzfb4 => (intro wS hSw; have q := hSw.c4; clear hSw; go_simp; try (with_reducible rfl))
  try simp only [zzA, zzB, zzC, Act.put, zzD, zzE, zzF]
  refine wpAnyH_take (i := 5) (v := ?vzfb5) rfl (by kernel_rfl) (by kernel_rfl) (by kernel_rfl) (fun _ _ _ h => h) (Or.inl ⟨by rfl, ?yzfb5⟩) hHeld ?rzfb5
  case yzfb5 => (intro wS hSw; clear hSw; go_simp; try (with_reducible rfl))
  try simp only [zzA, zzB, zzC, Act.put, zzD, zzE, zzF]
  refine wpAnyH_take (i := 6) (v := ?vzfb6) rfl (by kernel_rfl) (by kernel_rfl) (by kernel_rfl) (fun _ _ _ h => h) (Or.inl ⟨by rfl, ?yzfb6⟩) hHeld ?rzfb6
  case yzfb6 => (intro wS hSw; clear hSw; go_simp; try (with_reducible rfl))
  try simp only [zzA, zzB, zzC, Act.put, zzD, zzE, zzF]
  refine wpAnyH_take (i := 7) (v := ?vzfb7) rfl (by kernel_rfl) (by kernel_rfl) (by kernel_rfl) (fun _ _ _ h => h) (Or.inl ⟨by rfl, ?yzfb7⟩) hHeld ?rzfb7
  case yzfb7 => (intro wS hSw; clear hSw; go_simp; try (with_reducible rfl))
  try simp only [zzA, zzB, zzC, Act.put, zzD, zzE, zzF]
  refine wpAnyH_take (i := 8) (v := ?vzfb8) rfl (by kernel_rfl) (by kernel_rfl) (by kernel_rfl) (fun _ _ _ h => h) (Or.inl ⟨by rfl, ?yzfb8⟩) hHeld ?rzfb8
  case yzfb8 => (intro wS hSw; clear hSw; go_simp; try (with_reducible rfl))
  try simp only [zzA, zzB, zzC, Act.put, zzD, zzE, zzF]
  refine wpAnyH_take (i := 9) (v := ?vzfb9) rfl (by kernel_rfl) (by kernel_rfl) (by kernel_rfl) (fun _ _ _ h => h) (Or.inl ⟨by rfl, ?yzfb9⟩) hHeld ?rzfb9
  case yzfb9 => (intro wS hSw; have q := hSw.c3; clear hSw; go_simp; try (with_reducible rfl))
  try simp only [zzA, zzB, zzC, Act.put, zzD, zzE, zzF]
  refine wpAnyH_take (i := 10) (v := ?vzfb10) rfl (by kernel_rfl) (by kernel_rfl) (by kernel_rfl) (fun _ _ _ h => h) (Or.inl ⟨by rfl, ?yzfb10⟩) hHeld ?rzfb10
  case yzfb10 => (intro wS hSw; clear hSw; go_simp; try (with_reducible rfl))
  try simp only [zzA, zzB, zzC, Act.put, zzD, zzE, zzF]
  refine wpAnyH_take (i := 11) (v := ?vzfb11) rfl (by kernel_rfl) (by kernel_rfl) (by kernel_rfl) (fun _ _ _ h => h) (Or.inl ⟨by rfl, ?yzfb11⟩) hHeld ?rzfb11
  case yzfb11 => (intro wS hSw; clear hSw; go_simp; try (with_reducible rfl))
  try simp only [zzA, zzB, zzC, Act.put, zzD, zzE, zzF]
  refine wpAnyH_take (i := 12) (v := ?vzfb12) rfl (by kernel_rfl) (by kernel_rfl) (by kernel_rfl) (fun _ _ _ h => h) (Or.inl ⟨by rfl, ?yzfb12⟩) hHeld ?rzfb12
  case yzfb12 => (intro wS hSw; have q := hSw.hb.cell (show s < S + 1 by omega); rw [hp0] at q; clear hSw; go_simp; try (with_reducible rfl))
  try simp only [zzA, zzB, zzC, Act.put, zzD, zzE, zzF]
  refine wpAnyH_take (i := 13) (v := ?vzfb13) rfl (by kernel_rfl) (by kernel_rfl) (by kernel_rfl) (fun _ _ _ h => h) (Or.inl ⟨by rfl, ?yzfb13⟩) hHeld ?rzfb13
  case yzfb13 => (intro wS hSw; clear hSw; go_simp; try (with_reducible rfl))
  try simp only [zzA, zzB, zzC, Act.put, zzD, zzE, zzF]
  refine wpAnyH_take (i := 14) (v := ?vzfb14) rfl (by kernel_rfl) (by kernel_rfl) (by kernel_rfl) (fun _ _ _ h => h) (Or.inl ⟨by rfl, ?yzfb14⟩) hHeld ?rzfb14
  case yzfb14 => (intro wS hSw; clear hSw; go_simp; try (with_reducible rfl))
  try simp only [zzA, zzB, zzC, Act.put, zzD, zzE, zzF]
  refine wpAnyH_take (i := 15) (v := ?vzfb15) rfl (by kernel_rfl) (by kernel_rfl) (by kernel_rfl) (fun _ _ _ h => h) (Or.inl ⟨by rfl, ?yzfb15⟩) hHeld ?rzfb15
  case yzfb15 => (intro wS hSw; clear hSw; go_simp; try (with_reducible rfl))
  try simp only [zzA, zzB, zzC, Act.put, zzD, zzE, zzF]
  refine wpAnyH_take (i := 16) (v := ?vzfb16) rfl (by kernel_rfl) (by kernel_rfl) (by kernel_rfl) (fun _ _ _ h => h) (Or.inl ⟨by rfl, ?yzfb16⟩) hHeld ?rzfb16
  case yzfb16 => (intro wS hSw; clear hSw; go_simp; try (with_reducible rfl))
  try simp only [zzA, zzB, zzC, Act.put, zzD, zzE, zzF]
  refine wpAnyH_take (i := 17) (v := ?vzfb17) rfl (by kernel_rfl) (by kernel_rfl) (by kernel_rfl) (fun _ _ _ h => h) (Or.inl ⟨by rfl, ?yzfb17⟩) hHeld ?rzfb17
  case yzfb17 => (intro wS hSw; have q := hSw.c3; clear hSw; go_simp; try (with_reducible rfl))
  try simp only [zzA, zzB, zzC, Act.put, zzD, zzE, zzF]
  refine wpAnyH_take (i := 18) (v := ?vzfb18) rfl (by kernel_rfl) (by kernel_rfl) (by kernel_rfl) (fun _ _ _ h => h) (Or.inl ⟨by rfl, ?yzfb18⟩) hHeld ?rzfb18
  case yzfb18 => (intro wS hSw; clear hSw; go_simp; try (with_reducible rfl))
  try simp only [zzA, zzB, zzC, Act.put, zzD, zzE, zzF]
  refine wpAnyH_take (i := 19) (v := ?vzfb19) rfl (by kernel_rfl) (by kernel_rfl) (by kernel_rfl) (fun _ _ _ h => h) (Or.inl ⟨by rfl, ?yzfb19⟩) hHeld ?rzfb19
  case yzfb19 => (intro wS hSw; clear hSw; go_simp; try (with_reducible rfl))
  try simp only [zzA, zzB, zzC, Act.put, zzD, zzE, zzF]
  refine wpAnyH_take (i := 20) (v := ?vzfb20) rfl (by kernel_rfl) (by kernel_rfl) (by kernel_rfl) (fun _ _ _ h => h) (Or.inl ⟨by rfl, ?yzfb20⟩) hHeld ?rzfb20
  case yzfb20 => (intro wS hSw; clear hSw; go_simp; try (with_reducible rfl))
  try simp only [zzA, zzB, zzC, Act.put, zzD, zzE, zzF]
  refine wpAnyH_take (i := 21) (v := ?vzfb21) rfl (by kernel_rfl) (by kernel_rfl) (by kernel_rfl) (fun _ _ _ h => h) (Or.inl ⟨by rfl, ?yzfb21⟩) hHeld ?rzfb21
  case yzfb21 => (intro wS hSw; have q := hSw.hb.cell (show s1 < S + 1 by omega); rw [← hs1', hp1, hpe, hs1'] at q; clear hSw; go_simp; try (with_reducible rfl))
  try simp only [zzA, zzB, zzC, Act.put, zzD, zzE, zzF]
  refine wpAnyH_take (i := 22) (v := ?vzfb22) rfl (by kernel_rfl) (by kernel_rfl) (by kernel_rfl) (fun _ _ _ h => h) (Or.inl ⟨by rfl, ?yzfb22⟩) hHeld ?rzfb22
  case yzfb22 => (intro wS hSw; clear hSw; go_simp; try (with_reducible rfl))
  try simp only [zzA, zzB, zzC, Act.put, zzD, zzE, zzF]
  refine wpAnyH_take (i := 23) (v := ?vzfb23) rfl (by kernel_rfl) (by kernel_rfl) (by kernel_rfl) (fun _ _ _ h => h) (Or.inl ⟨by rfl, ?yzfb23⟩) hHeld ?rzfb23
  case yzfb23 => (intro wS hSw; clear hSw; go_simp; try (with_reducible rfl))
  try simp only [zzA, zzB, zzC, Act.put, zzD, zzE, zzF]
  refine wpAnyH_take (i := 24) (v := ?vzfb24) rfl (by kernel_rfl) (by kernel_rfl) (by kernel_rfl) (fun _ _ _ h => h) (Or.inl ⟨by rfl, ?yzfb24⟩) hHeld ?rzfb24
  case yzfb24 => (intro wS hSw; clear hSw; go_simp; try (with_reducible rfl))
  try simp only [zzA, zzB, zzC, Act.put, zzD, zzE, zzF]
  refine wpAnyH_done (by kernel_rfl) ?_ _
  have H1 := Lib.hid (show Now W0 n1 g gm gb gp S Ae ne ce Xv fb fp rd v l W.drew from ⟨HO.out, f, hHeld⟩)
  have FR1 := Lib.hid (show Fr g gm v W W.drew from ⟨Nat.le_refl _, fun _ _ _ _ _ => rfl⟩)
  clear hHeld HW HO hw1 hcut hsi hsi2 hs1 k3 k4 j1 j2
  generalize W.drew = W1 at *
  go_wp2_with fail
  go_loopw [1, 36] (fun vl vi wr => ∃ j : Nat, j ≤ d ∧ vi = .int .i64 (j : Int) ∧ Hid (Now W0 n1 g gm gb gp S Ae ne ce Xv fb fp rd vl (((outsE E s).take j).foldl (goE (byE ch)) l) wr) ∧ Hid (Fr g gm v W wr) ∧ Hid (∀ i, vl.ownBlock = some i → v.ownBlock = some i ∨ W.heap.size ≤ i)) (fun _ vi _ => d - (intOf vi).toNat)
  case atStart => exact ⟨0, Nat.zero_le _, rfl, H1.out, FR1.out, fun i e => Or.inl e⟩
  case round =>
    obtain ⟨j, hj, rfl, NWJ, FRJ, NEW⟩ := hrel
    clear H1 FR1
    by_cases hlt : j < d
    · have hjl : j < (outsE E s).length := by rw [BL.out]; exact hlt
      obtain ⟨hpl, hpe2⟩ := B4.out j hjl
      obtain rfl : A' = some ⟨gp, p0, none⟩ := HA.out (by omega)
      have hmem : (outsE E s)[j] ∈ E := by rw [← hpe2]; exact List.getElem_mem hpl
      obtain ⟨x1, x2, x3, x4, x5⟩ := st.ed _ hmem
      have TK := Lib.hid (show ((outsE E s).take (j + 1)).foldl (goE (byE ch)) l = goE (byE ch) (((outsE E s).take j).foldl (goE (byE ch)) l) (outsE E s)[j] by rw [List.take_succ_eq_append_getElem hjl, List.foldl_append]; rfl)
      obtain ⟨hoj, fj, hwj⟩ := NWJ.out
      have m1 := hwj.c1
      have m2 := hwj.hp.cell (show p0 + j < ne by omega)
      obtain ⟨ad, hAe, hcs⟩ := (st.re.below (hwj.below)) _ hpl
      have hed0 : EdAt wr (ad.add (fp (p0 + j) * 7)) (outsE E s)[j] := fun i u hu => hcs i u (by rw [hpe2]; exact hu)
      have hte : (outsE E s)[j].tn < S := by unfold Ed.tn; omega
      have htn : (outsE E s)[j].to = ((outsE E s)[j].tn : Int) := by unfold Ed.tn; omega
      have hpn : fp (p0 + j) < ne := by rw [← st.en]; exact hpl
      clear hcs hpe2 hmem x1 x2 x3 x4 x5 hoj hwj
      generalize (outsE E s)[j] = e at *
      clear hjl hpl
      generalize fp (p0 + j) = p at *
      generalize ((outsE E s).take j).foldl (goE (byE ch)) l = lj at *
      have hpi : (p : Int) < (ne : Int) := by omega
      have ED := Lib.hid hed0
      clear hed0
      subst hAe
      go_wp2_with fail
      have BXR := Lib.hid ((FRJ.out.keep bx (Array.getElem?_eq_some_iff.1 HBX.out).1 hbg.1 hbg.2 HBV.out).trans HBX.out)
      refine (byte_any ch hch bx _ e _ ED.out BXR.out).mono ?_
      rintro x w2 ⟨rfl, hb2⟩
      have N2 := Lib.hid (NWJ.out.then st hb2)
      have F2 := Lib.hid (FRJ.out.trans (Fr.of_below (v := u1) (g := g) (gm := gm) hb2) NEW.out)
      have t1 : w2.cell? ((ad.add (p * 7)).add 1) = some (.int .i64 e.to) := ED.out.below hb2 1 _ rfl
      rw [htn] at t1
      have t2 : w2.cell? ⟨(ad.add (p * 7)).block, (ad.add (p * 7)).off + 1, none⟩ = some (.int .i64 (e.tn : Int)) := t1
      have NE2 := Lib.hid NEW.out
      have SZ2 := Lib.hid (Nat.le_trans FRJ.out.size hb2.size)
      clear hb2 NWJ FRJ NEW m1 m2 ED BXR
      obtain ⟨qb, hqb⟩ : ∃ b, ((byE ch) e : Bool) = b := ⟨_, rfl⟩
      have TG := Lib.hid (show goE (byE ch) lj e = if qb then reachE lj e.tn else lj by simp only [goE, hqb])
      rw [show byE ch e = qb from hqb]
      clear hqb
      cases qb with
      | true =>
        go_wp2_with fail
        obtain ⟨ho2, f2, hw2⟩ := N2.out
        refine (reach_any st rd hrd f2 lj u1 e.tn hte w2 hw2 ho2).mono ?_
        rintro x w3 ⟨v3, rfl, n3, fr3, new3⟩
        have N3 := Lib.hid n3
        have F3 := Lib.hid (F2.out.trans fr3 NE2.out)
        have NE3 := Lib.hid (show ∀ i, v3.ownBlock = some i → v.ownBlock = some i ∨ W.heap.size ≤ i from fun i hi => (new3 i hi).elim (fun h => NE2.out i h) (fun h => Or.inr (Nat.le_trans SZ2.out h)))
        clear ho2 hw2 n3 fr3 new3 t1 t2 N2 F2 NE2
        go_wp2_with fail
        refine ⟨⟨j + 1, by omega, by go_num, ?_, F3.out, NE3.out⟩, by simp [intOf]; omega⟩
        unfold Hid
        rw [TK.out, TG.out]
        simp only [if_true]
        exact N3.out
      | false =>
        go_wp2_with fail
        refine ⟨⟨j + 1, by omega, by go_num, ?_, F2.out, NE2.out⟩, by simp [intOf]; omega⟩
        unfold Hid
        rw [TK.out, TG.out]
        simp only [Bool.false_eq_true, if_false]
        exact N2.out
    · obtain rfl : j = d := by omega
      have hall : ((outsE E s).take j).foldl (goE (byE ch)) l = followE E (byE ch) l s := by rw [List.take_of_length_le (by rw [BL.out]; omega)]; rfl
      rw [hall] at NWJ
      go_wp2_with fail
      refine post_is HQ ?_
      exact ⟨_, rfl, NWJ.out, FRJ.out, NEW.out⟩

end Go.Proofs.YtcgfogdfcdndgaaGreatDoor

/- A walk over a net: what is reached for nothing, and what is behind a byte. -/
set_option linter.unusedVariables false
set_option linter.unusedSimpArgs false
namespace Go.Proofs.YtcgfogdfcdndgaaGreatDoor
open Go.RowKit

theorem Now.len {W0 W : World} {n1 g gm gb gp S : Nat} {Ae : Option Addr} {ne ce : Nat} {E : List Ed} {Xv : Value} {fb fp : Nat → Nat} {rd : Nat} {v : Value} {l : List Nat} (st : Sta W0 n1 g gm gb gp S Ae ne ce E fb fp) (h : Now W0 n1 g gm gb gp S Ae ne ce Xv fb fp rd v l W) : l.length ≤ 2048 ∧ InN S l := by
  obtain ⟨_, f, h⟩ := h
  exact ⟨h.len st.s2, h.inn⟩

set_option maxRecDepth 100000 in
set_option maxHeartbeats 8000000 in
theorem for_any {W0 : World} {n1 g gm gb gp S : Nat} {Ae : Option Addr} {ne ce : Nat} {E : List Ed} {Xv : Value} {fb fp : Nat → Nat} (st : Sta W0 n1 g gm gb gp S Ae ne ce E fb fp)
    (rd : Nat) (hrd : rd + 1 < 100000) (l0 : List Nat) (A : Option Addr) (n c : Nat) (xs : List Nat) (hn : xs.length = n) (hn2 : n ≤ 140737488355328) (hxs : InN S xs) (W : World) (h : ∃ f, WkS W0 n1 g gm gb gp S Ae ne ce Xv fb fp rd f l0 W) (hst : Stays g gm W A xs) :
    Calls Tryz.prog 45 #[.pointer (some ⟨g, 0, none⟩), .slice A n c] W
      (GotLs (Now W0 n1 g gm gb gp S Ae ne ce Xv fb fp (rd + 1)) g gm (.slice none 0 0) W (forE E xs)) := by
  have HC := Lib.hid (once_any st rd hrd l0 A n c xs hn hn2 hxs W h hst)
  obtain ⟨r1, hr1⟩ : ∃ r, rd + 1 = r := ⟨_, rfl⟩
  rw [hr1] at hrd HC ⊢
  generalize hQ : GotLs (Now W0 n1 g gm gb gp S Ae ne ce Xv fb fp r1) g gm (.slice none 0 0) W (forE E xs) = Q
  have HQ := Lib.hid hQ
  have HX := Lib.hid hxs
  clear hQ h hst hxs hn hr1
  go_enter Tryz.func45, Tryz.ntmps45
  go_wp2_with fail
  refine HC.out.mono ?_
  rintro x W1 ⟨v1, rfl, n1', fr1, new1⟩
  have N1 := Lib.hid n1'
  have F1 := Lib.hid fr1
  have NE1 := Lib.hid (show ∀ i, v1.ownBlock = some i → W.heap.size ≤ i from fun i e => (new1 i e).elim (fun h => absurd h (own_none i)) id)
  have hf0 : forE E xs = closeF E 2049 0 (onceE xs) := rfl
  rw [hf0] at HQ
  generalize onceE xs = l1 at *
  obtain ⟨R, hR⟩ : ∃ R, closeF E 2049 0 l1 = R := ⟨_, rfl⟩
  rw [hR] at HQ
  have HR := Lib.hid hR
  clear n1' fr1 new1 HC hf0 hR
  go_wp2_with fail
  go_loopw [5, 6] (fun vl vi wr => ∃ (i fl : Nat) (lst : List Nat), vi = .int .i64 (i : Int) ∧ i + fl = 2049 ∧ i ≤ lst.length ∧ Hid (Now W0 n1 g gm gb gp S Ae ne ce Xv fb fp r1 vl lst wr) ∧ Hid (closeF E fl i lst = R) ∧ Hid (Fr g gm (.slice none 0 0) W wr) ∧ Hid (∀ i, vl.ownBlock = some i → W.heap.size ≤ i)) (fun _ vi _ => 2049 - (intOf vi).toNat)
  case atStart => exact ⟨0, 2049, l1, rfl, rfl, Nat.zero_le _, N1.out, HR.out, F1.out, NE1.out⟩
  case round =>
    obtain ⟨i, fl, lst, rfl, hfl, hil, NW1, HCF, FR, NEW⟩ := hrel
    have HFL := Lib.hid hfl
    clear N1 F1 NE1 HR
    obtain ⟨hlen, hin⟩ := NW1.out.len st
    obtain ⟨A3, n3, c3, rfl, HL3, hnc3, hcm3, hrz⟩ := NW1.out.1.form
    have hn3 : n3 ≤ 2048 := by have := HL3.out; omega
    clear hfl
    by_cases hlt : i < n3
    · have hkl : i < lst.length := by have := HL3.out; omega
      obtain ⟨ad, hA, hc1⟩ := hrz i hkl
      subst hA
      have hsx : lst[i] < S := hin _ (List.getElem_mem hkl)
      obtain ⟨f2, rfl⟩ : ∃ f, fl = f + 1 := ⟨fl - 1, by have := HFL.out; omega⟩
      have TK := Lib.hid (show closeF E (f2 + 1) i lst = closeF E f2 (i + 1) (followE E (fun e => e.free) lst lst[i]) by rw [closeF, dif_pos hkl])
      have hpl := (pre_follow E (fun e => e.free) lst lst[i]).length_le
      generalize lst[i] = s at *
      have HCON := Lib.hid (follow_free st r1 (by omega) lst _ s hsx wr NW1.out)
      have hi9 : i ≤ 2048 := by omega
      have HPL := Lib.hid hpl
      have HIL := Lib.hid (show i + 1 ≤ lst.length by omega)
      clear hkl hrz hcm3 NW1 hin hpl hil hlen
      go_wp2_with fail
      refine HCON.out.mono ?_
      rintro x w2 ⟨v2, rfl, nw2, fr2, new2⟩
      have N2 := Lib.hid nw2
      have F2 := Lib.hid (FR.out.wide fr2 NEW.out)
      have NE2 := Lib.hid (show ∀ i, v2.ownBlock = some i → W.heap.size ≤ i from fun i e => (new2 i e).elim (fun h => NEW.out i h) (fun h => Nat.le_trans FR.out.size h))
      clear nw2 fr2 new2 HCON FR NEW hc1
      go_wp2_with fail
      refine ⟨⟨i + 1, f2, _, by go_num, by have := HFL.out; omega, by have := HPL.out; have := HIL.out; omega, N2.out, ?_, F2.out, NE2.out⟩, by simp [intOf]; omega⟩
      unfold Hid
      rw [← TK.out]
      exact HCF.out
    · have hR2 : R = lst := by
        have := HCF.out
        cases fl with
        | zero => have := HFL.out; have := HL3.out; omega
        | succ f2 => rw [closeF, dif_neg (by have := HL3.out; omega)] at this; exact this.symm
      have HR2 := Lib.hid hR2
      clear hR2 hrz hcm3 hlen hil hin
      go_wp2_with fail
      refine post_is HQ ?_
      rw [HR2.out]
      exact ⟨_, rfl, NW1.out, FR.out, fun i e => Or.inr (NEW.out i e)⟩

set_option maxRecDepth 100000 in
set_option maxHeartbeats 8000000 in
theorem behind_any {W0 : World} {n1 g gm gb gp S : Nat} {Ae : Option Addr} {ne ce : Nat} {E : List Ed} {Xv : Value} {fb fp : Nat → Nat} (st : Sta W0 n1 g gm gb gp S Ae ne ce E fb fp)
    (rd : Nat) (hrd : rd + 1 < 100000) (ch : Nat) (hch : ch < 256) (l0 : List Nat) (A : Option Addr) (n c : Nat) (xs : List Nat) (hn : xs.length = n) (hn2 : n ≤ 140737488355328) (hxs : InN S xs) (W : World) (h : ∃ f, WkS W0 n1 g gm gb gp S Ae ne ce Xv fb fp rd f l0 W) (hst : Stays g gm W A xs) :
    Calls Tryz.prog 46 #[.pointer (some ⟨g, 0, none⟩), .slice A n c, .int .u8 (ch : Int)] W
      (GotLs (Now W0 n1 g gm gb gp S Ae ne ce Xv fb fp (rd + 1)) g gm (.slice none 0 0) W (behE E ch xs)) := by
  obtain ⟨f, h⟩ := h
  have hb0 := bl_alloc (Below.refl W.heap.size W) (.cells #[.int .u8 (ch : Int)] 5)
  have HC := Lib.hid (once_any st rd hrd l0 none 0 0 [] rfl (by omega) (fun x hx => absurd hx (by simp)) (W.alloc (.cells #[.int .u8 (ch : Int)] 5)) ⟨f, h.then st hb0⟩ (fun W' hf k hk => absurd hk (by simp)))
  have FA := Lib.hid (show Fr g gm (.slice none 0 0) W (W.alloc (.cells #[.int .u8 (ch : Int)] 5)) from Fr.of_below hb0)
  have BX := Lib.hid (heap_alloc_new W (.cells #[.int .u8 (ch : Int)] 5))
  have hsz := h.sz
  have hbg : W.heap.size ≠ g ∧ W.heap.size ≠ gm := ⟨by have := st.ug; omega, by have := st.um; omega⟩
  have hS1 : (W.alloc (.cells #[.int .u8 (ch : Int)] 5)).heap.size = W.heap.size + 1 := by simp
  obtain ⟨r1, hr1⟩ : ∃ r, rd + 1 = r := ⟨_, rfl⟩
  rw [hr1] at hrd HC ⊢
  generalize hQ : GotLs (Now W0 n1 g gm gb gp S Ae ne ce Xv fb fp r1) g gm (.slice none 0 0) W (behE E ch xs) = Q
  have HQ := Lib.hid hQ
  have HX := Lib.hid hxs
  have HN := Lib.hid hn
  have HST := Lib.hid hst
  have HS1 := Lib.hid hS1
  clear hQ h hst hxs hn hr1 hb0 hsz hS1
  have hmf : ∀ (fn : Fn) (first cap : Array Value) (w : World), (Instr.makeFunc fn first cap).run Tryz.prog w = .ok (.func fn first cap) w := fun _ _ _ _ => rfl
  go_enter Tryz.func46, Tryz.ntmps46
  go_wp2_with fail
  refine HC.out.mono ?_
  rintro x W1 ⟨v1, rfl, n1', fr1, new1⟩
  have N1 := Lib.hid n1'
  have F1 := Lib.hid fr1
  have NE1 := Lib.hid (show ∀ i, v1.ownBlock = some i → W.heap.size + 1 ≤ i from fun i e => (new1 i e).elim (fun h => absurd h (own_none i)) (fun h => by rw [HS1.out] at h; exact h))
  clear n1' fr1 new1 HC
  go_wp2_with fail
  go_loopw [7, 14] (fun vl vi wr => ∃ k : Nat, k ≤ n ∧ vi = .int .i64 (k : Int) ∧ Hid (Now W0 n1 g gm gb gp S Ae ne ce Xv fb fp r1 vl ((xs.take k).foldl (followE E (byE ch)) []) wr) ∧ Hid (Fr g gm (.slice none 0 0) (W.alloc (.cells #[.int .u8 (ch : Int)] 5)) wr) ∧ Hid (∀ i, vl.ownBlock = some i → W.heap.size + 1 ≤ i)) (fun _ vi _ => n - (intOf vi).toNat)
  case atStart => exact ⟨0, Nat.zero_le _, rfl, N1.out, F1.out, NE1.out⟩
  case round =>
    obtain ⟨k, hk, rfl, NWK, FR, NEW⟩ := hrel
    clear N1 F1 NE1
    have FRW := Lib.hid (FA.out.trans FR.out (fun i e => absurd e (own_none i)))
    by_cases hlt : k < n
    · have hkl : k < xs.length := by rw [HN.out]; exact hlt
      obtain ⟨ad, hA, hc1⟩ := HST.out wr FRW.out k hkl
      subst hA
      have hsx : xs[k] < S := HX.out _ (List.getElem_mem hkl)
      have TK := Lib.hid (show (xs.take (k + 1)).foldl (followE E (byE ch)) [] = followE E (byE ch) ((xs.take k).foldl (followE E (byE ch)) []) xs[k] by rw [List.take_succ_eq_append_getElem hkl, List.foldl_append]; rfl)
      generalize xs[k] = s at *
      generalize (xs.take k).foldl (followE E (byE ch)) [] = lk at *
      have hbxk : wr.heap[W.heap.size]? = some (.cells #[.int .u8 (ch : Int)] 5 (0, 0)) := (FR.out.keep W.heap.size (by rw [HS1.out]; omega) hbg.1 hbg.2 (own_none _)).trans BX.out
      have HCON := Lib.hid (follow_byte st r1 (by omega) ch hch W.heap.size lk u7 s hsx wr NWK.out hbxk hbg (fun e => by have := NEW.out _ e; omega))
      clear hkl hbxk NWK
      go_wp2_with fail
      refine HCON.out.mono ?_
      rintro x w2 ⟨v2, rfl, nw2, fr2, new2⟩
      have N2 := Lib.hid nw2
      have F2 := Lib.hid (FR.out.wide fr2 (fun i e => by rw [HS1.out]; exact NEW.out i e))
      have NE2 := Lib.hid (show ∀ i, v2.ownBlock = some i → W.heap.size + 1 ≤ i from fun i e => (new2 i e).elim (fun h => NEW.out i h) (fun h => by have := FR.out.size; rw [HS1.out] at this; omega))
      clear nw2 fr2 new2 HCON FR NEW FRW hc1
      go_wp2_with fail
      refine ⟨⟨k + 1, by omega, by go_num, ?_, F2.out, NE2.out⟩, by simp [intOf]; omega⟩
      unfold Hid
      rw [TK.out]
      exact N2.out
    · obtain rfl : k = n := by omega
      have hall : (xs.take k).foldl (followE E (byE ch)) [] = behE E ch xs := by rw [List.take_of_length_le (by rw [HN.out]; omega)]; rfl
      rw [hall] at NWK
      go_wp2_with fail
      refine post_is HQ ?_
      exact ⟨_, rfl, NWK.out, FRW.out, fun i e => Or.inr (by have := NEW.out i e; omega)⟩

end Go.Proofs.YtcgfogdfcdndgaaGreatDoor
