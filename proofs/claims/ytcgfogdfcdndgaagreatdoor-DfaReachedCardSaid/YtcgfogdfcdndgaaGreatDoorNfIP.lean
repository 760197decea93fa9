/- A net with its edges by states, made. -/
import Derived.Test.YtcgfogdfcdndgaaGreatDoorNfHP
import Derived.Deep.DeepCutAuto
set_option linter.unusedVariables false
set_option linter.unusedSimpArgs false
namespace Go.Proofs.YtcgfogdfcdndgaaGreatDoor
open Go.RowKit
attribute [local go_sem] Oper.semAt_some

theorem agg_net (w : World) : (isAgg 25).run Tryz.prog w = .ok true w := by kernel_rfl
theorem sz_net (w : World) : (sizeOf 25).run Tryz.prog w = .ok 3 w := by kernel_rfl
theorem agg_sorted (w : World) : (isAgg 114).run Tryz.prog w = .ok true w := by kernel_rfl
theorem sz_sorted (w : World) : (sizeOf 114).run Tryz.prog w = .ok 5 w := by kernel_rfl
theorem size_sorted : (Tryz.prog.info? 114).map (·.size) = some 5 := by kernel_rfl
theorem built_sorted (k : Int) (A X P Q : Option Addr) (n c x y p q r s : Nat) : Tryz.prog.built 114 [(0, Value.agg #[.int .i64 k, .slice A n c, .slice X x y]), (1, Value.slice P p q), (2, Value.slice Q r s)] = some #[.int .i64 k, .slice A n c, .slice X x y, .slice P p q, .slice Q r s] := by kernel_rfl
theorem agg_edge (w : World) : (isAgg 53).run Tryz.prog w = .ok true w := by kernel_rfl
theorem sz_edge (w : World) : (sizeOf 53).run Tryz.prog w = .ok 7 w := by kernel_rfl
theorem wp_load_part {o : Oper} {a : Act} {w : World} {K : Act → World → Prop} {Q : Exit → Act → World → Prop} (ty : TypeId) (k : Nat) (x : Operand) (ho : o.op = .load ty x) (ad : Addr) (hx : a.eval x = .pointer (some ad)) (vs : List Value)
    (hagg : (isAgg ty).run Tryz.prog w = .ok true w) (hsz : (sizeOf ty).run Tryz.prog w = .ok k w) (hk : vs.length = k) (hc : ∀ j u, vs[j]? = some u → w.cell? (ad.add j) = some u)
    (h : K (a.put o.dst (.agg vs.toArray)) w) : o.wp Tryz.prog a w K Q := by
  unfold Oper.wp execOp
  simp only [ho, hx, Instr.loadAt, Instr.sureAddr, Sem.run_bind, Sem.run_pure, Result.andThen_ok, run_load_part ty k w ad vs hagg hsz hk hc]
  exact h
theorem wpList_load_part {ops : Array Oper} {rest : List Oper} {o : Oper} {a : Act} {w : World} {Q : Exit → Act → World → Prop} (ty : TypeId) (k : Nat) (x : Operand) (hgd : o.guard = none) (ho : o.op = .load ty x) (ad : Addr) (hx : a.eval x = .pointer (some ad)) (vs : List Value)
    (hagg : (isAgg ty).run Tryz.prog w = .ok true w) (hsz : (sizeOf ty).run Tryz.prog w = .ok k w) (hk : vs.length = k) (hc : ∀ j u, vs[j]? = some u → w.cell? (ad.add j) = some u)
    (h : wpList Tryz.prog ops Q rest (a.put o.dst (.agg vs.toArray)) w) : wpList Tryz.prog ops Q (o :: rest) a w :=
  wpList_plain hgd fun _ hK => wp_load_part ty k x ho ad hx vs hagg hsz hk hc (hK _ _ h)
def zero5 : Array Value := #[.int .i64 0, .slice none 0 0, .slice none 0 0, .slice none 0 0, .slice none 0 0]
/-- What lies while the net is sorted. -/
structure SoS (W : World) (g1 g2 gs gb gp : Nat) (S : Nat) (Ae : Option Addr) (ne ce : Nat) (Ax : Option Addr) (nx cx : Nat) (fb fp : Nat → Nat) (wr : World) : Prop where
  ks : wr.heap[gs]? = some (.cells #[.int .i64 (S : Int), .slice Ae ne ce, .slice Ax nx cx, .slice (some ⟨gb, 0, none⟩) (S + 1) (S + 1), .slice (some ⟨gp, 0, none⟩) ne ne] 114 (0, 0))
  k1 : wr.heap[g1]? = some (.cells #[.int .i64 (S : Int), .slice Ae ne ce, .slice Ax nx cx] 25 (0, 0))
  k2 : wr.heap[g2]? = some (.cells zero5 114 (0, 0))
  hb : Hn wr gb (S + 1) fb
  hp : Hn wr gp ne fp
  below : Below W.heap.size W wr
  ns : W.heap.size ≤ gs
  nb : W.heap.size ≤ gb
  np : W.heap.size ≤ gp
  n2 : W.heap.size ≤ g2
  ap : gb ≠ gp
section
variable {W wr wr' : World} {g1 g2 gs gb gp S : Nat} {Ae Ax : Option Addr} {ne ce nx cx : Nat} {fb fp fb' fp' : Nat → Nat}
theorem SoS.then (h : SoS W g1 g2 gs gb gp S Ae ne ce Ax nx cx fb fp wr) (hb : Below wr.heap.size wr wr') : SoS W g1 g2 gs gb gp S Ae ne ce Ax nx cx fb fp wr' :=
  ⟨(hb.block gs (Array.getElem?_eq_some_iff.1 h.ks).1).trans h.ks, (hb.block g1 (Array.getElem?_eq_some_iff.1 h.k1).1).trans h.k1, (hb.block g2 (Array.getElem?_eq_some_iff.1 h.k2).1).trans h.k2, h.hb.below hb, h.hp.below hb, bl_trans h.below hb, h.ns, h.nb, h.np, h.n2, h.ap⟩
theorem SoS.s3 (h : SoS W g1 g2 gs gb gp S Ae ne ce Ax nx cx fb fp wr) : wr.cell? ⟨gs, 3, none⟩ = some (.slice (some ⟨gb, 0, none⟩) (S + 1) (S + 1)) := cell_of_row wr gs 3 _ _ _ h.ks
theorem SoS.a0 (h : SoS W g1 g2 gs gb gp S Ae ne ce Ax nx cx fb fp wr) : wr.cell? ⟨g1, 0, none⟩ = some (.int .i64 (S : Int)) := cell_of_row wr g1 0 _ _ _ h.k1
theorem SoS.a1 (h : SoS W g1 g2 gs gb gp S Ae ne ce Ax nx cx fb fp wr) : wr.cell? ⟨g1, 1, none⟩ = some (.slice Ae ne ce) := cell_of_row wr g1 1 _ _ _ h.k1
theorem SoS.typ (h : SoS W g1 g2 gs gb gp S Ae ne ce Ax nx cx fb fp wr) : gb ≠ gs ∧ gb ≠ g1 ∧ gb ≠ g2 ∧ gp ≠ gs ∧ gp ≠ g1 ∧ gp ≠ g2 := by
  have ki : ∀ (b b' : Nat) (cs cs' : Array Value) (t : TypeId), wr.heap[b]? = some (.cells cs 3 (0, 0)) → wr.heap[b']? = some (.cells cs' t (0, 0)) → t ≠ 3 → b ≠ b' := by
    intro b b' cs cs' t h1 h2 ht e
    subst e
    rw [h1] at h2
    injection h2 with h2
    injection h2 with _ h2 _
    exact ht h2.symm
  exact ⟨ki _ _ _ _ _ h.hb h.ks (by decide), ki _ _ _ _ _ h.hb h.k1 (by decide), ki _ _ _ _ _ h.hb h.k2 (by decide), ki _ _ _ _ _ h.hp h.ks (by decide), ki _ _ _ _ _ h.hp h.k1 (by decide), ki _ _ _ _ _ h.hp h.k2 (by decide)⟩
theorem SoS.setB (h : SoS W g1 g2 gs gb gp S Ae ne ce Ax nx cx fb fp wr) (i x : Nat) (e : ∀ j, j < S + 1 → upd fb i x j = fb' j) : SoS W g1 g2 gs gb gp S Ae ne ce Ax nx cx fb' fp (wr.setCell ⟨gb, i, none⟩ (.int .i64 (x : Int))) := by
  obtain ⟨t1, t2, t3, _⟩ := h.typ
  exact ⟨(Below.heap_setCell _ _ _ _ (fun e => t1 e.symm)).trans h.ks, (Below.heap_setCell _ _ _ _ (fun e => t2 e.symm)).trans h.k1, (Below.heap_setCell _ _ _ _ (fun e => t3 e.symm)).trans h.k2, (h.hb.set i x).congr e, (Below.heap_setCell _ _ _ _ (fun e => h.ap e.symm)).trans h.hp, bl_grown h.below (grown_set wr gb i _) (fun k e => by cases e; exact h.nb), h.ns, h.nb, h.np, h.n2, h.ap⟩
theorem SoS.setP (h : SoS W g1 g2 gs gb gp S Ae ne ce Ax nx cx fb fp wr) (i x : Nat) (e : ∀ j, j < ne → upd fp i x j = fp' j) : SoS W g1 g2 gs gb gp S Ae ne ce Ax nx cx fb fp' (wr.setCell ⟨gp, i, none⟩ (.int .i64 (x : Int))) := by
  obtain ⟨_, _, _, t1, t2, t3⟩ := h.typ
  exact ⟨(Below.heap_setCell _ _ _ _ (fun e => t1 e.symm)).trans h.ks, (Below.heap_setCell _ _ _ _ (fun e => t2 e.symm)).trans h.k1, (Below.heap_setCell _ _ _ _ (fun e => t3 e.symm)).trans h.k2, (Below.heap_setCell _ _ _ _ h.ap).trans h.hb, (h.hp.set i x).congr e, bl_grown h.below (grown_set wr gp i _) (fun k e => by cases e; exact h.np), h.ns, h.nb, h.np, h.n2, h.ap⟩
end
theorem SoS.other {W wr : World} {g1 g2 gs gb gp S : Nat} {Ae Ax : Option Addr} {ne ce nx cx : Nat} {fb fp : Nat → Nat} (h : SoS W g1 g2 gs gb gp S Ae ne ce Ax nx cx fb fp wr) (b i x : Nat) (hb : b ≠ gb ∧ b ≠ gp ∧ b ≠ gs ∧ W.heap.size ≤ b) (h12 : b ≠ g1 ∧ b ≠ g2) : SoS W g1 g2 gs gb gp S Ae ne ce Ax nx cx fb fp (wr.setCell ⟨b, i, none⟩ (.int .i64 (x : Int))) := by
  obtain ⟨t1, t2, t3, t4⟩ := hb
  exact ⟨(Below.heap_setCell _ _ _ _ (fun e => t3 e.symm)).trans h.ks, (Below.heap_setCell _ _ _ _ (fun e => h12.1 e.symm)).trans h.k1, (Below.heap_setCell _ _ _ _ (fun e => h12.2 e.symm)).trans h.k2, (Below.heap_setCell _ _ _ _ (fun e => t1 e.symm)).trans h.hb, (Below.heap_setCell _ _ _ _ (fun e => t2 e.symm)).trans h.hp, bl_grown h.below (grown_set wr b i _) (fun k e => by cases e; exact t4), h.ns, h.nb, h.np, h.n2, h.ap⟩
def fb1 (E : List Ed) (k : Nat) : Nat → Nat
  | 0 => 0
  | j + 1 => cntE E j k
def fb2 (E : List Ed) (i j : Nat) : Nat := if j ≤ i then begE E j else fb1 E E.length j
def fb3 (E : List Ed) (k j : Nat) : Nat := begE E j + cntE E j k
def GotSo (W : World) (S : Nat) (Ae : Option Addr) (ne ce : Nat) (Ax : Option Addr) (nx cx : Nat) (E : List Ed) (e : Ending) (W' : World) : Prop :=
  ∃ gb gp fp, e = .returned (.agg #[.int .i64 (S : Int), .slice Ae ne ce, .slice Ax nx cx, .slice (some ⟨gb, 0, none⟩) (S + 1) (S + 1), .slice (some ⟨gp, 0, none⟩) ne ne]) ∧ Hn W' gb (S + 1) (begE E) ∧ Hn W' gp ne fp ∧ Placed E fp ne ∧ W.heap.size ≤ gb ∧ W.heap.size ≤ gp ∧ gb ≠ gp ∧ Below W.heap.size W W'

set_option maxRecDepth 100000 in
set_option maxHeartbeats 16000000 in
theorem sorted_any (S : Nat) (Ae Ax : Option Addr) (ne ce nx cx : Nat) (E : List Ed) (hS1 : 1 ≤ S) (hS : S ≤ 2048) (hne : E.length = ne) (hn8 : ne ≤ 8192) (hE : EdN S E) (W : World) (hr : RdE W Ae E) :
    Calls Tryz.prog 70 #[.agg #[.int .i64 (S : Int), .slice Ae ne ce, .slice Ax nx cx]] W (GotSo W S Ae ne ce Ax nx cx E) := by
  generalize hQ : GotSo W S Ae ne ce Ax nx cx E = Q
  have HQ := Lib.hid hQ
  have b1 := bl_alloc (bl_alloc (Below.refl W.heap.size W) (.cells #[.int .i64 (S : Int), .slice Ae ne ce, .slice Ax nx cx] 25)) (.cells zero5 114)
  have k1 : ((W.alloc (.cells #[.int .i64 (S : Int), .slice Ae ne ce, .slice Ax nx cx] 25)).alloc (.cells zero5 114)).heap[W.heap.size]? = some (.cells #[.int .i64 (S : Int), .slice Ae ne ce, .slice Ax nx cx] 25 (0, 0)) := by
    rw [Below.heap_alloc _ _ _ (by simp)]
    exact heap_alloc_new W _
  have k2 : ((W.alloc (.cells #[.int .i64 (S : Int), .slice Ae ne ce, .slice Ax nx cx] 25)).alloc (.cells zero5 114)).heap[W.heap.size + 1]? = some (.cells zero5 114 (0, 0)) := by
    have := heap_alloc_new (W.alloc (.cells #[.int .i64 (S : Int), .slice Ae ne ce, .slice Ax nx cx] 25)) (.cells zero5 114)
    rwa [World.size_alloc] at this
  have mk1 := make_ints (S + 1) ((S : Int) + 1) (by omega) (by omega)
  have mk2 := make_ints ne (ne : Int) rfl (by omega)
  have bu := built_sorted
  have hwS : IntKind.i64.wrap ((S : Int) + 1) = (S : Int) + 1 := IntWalk.i64_in _ (by omega)
  have HR := Lib.hid hr
  have HE := Lib.hid hE
  have HNE := Lib.hid hne
  clear hQ hr hE hne
  go_enter Tryz.func70, Tryz.ntmps70
  go_upto_region 1 with fail
  unfold zero5 at k2 b1 k1
  generalize (W.alloc (.cells #[.int .i64 (S : Int), .slice Ae ne ce, .slice Ax nx cx] 25)).alloc (.cells #[.int .i64 0, .slice none 0 0, .slice none 0 0, .slice none 0 0, .slice none 0 0] 114) = W1 at *
  have K1 := Lib.hid k1
  have K2 := Lib.hid k2
  have B1 := Lib.hid b1
  clear k1 k2 b1
  obtain ⟨g1, hg1⟩ : ∃ g, W.heap.size = g := ⟨_, rfl⟩
  rw [hg1] at K1 K2 ⊢
  have HG1 := Lib.hid hg1
  clear hg1
  go_cut [3] (fun t3 wx => ∃ gs gb gp, t3 = .pointer (some ⟨gs, 0, none⟩) ∧ SoS W g1 (g1 + 1) gs gb gp S Ae ne ce Ax nx cx (fun _ => 0) (fun _ => 0) wx)
  case first =>
    refine wp_region_held_drew (S := fun wS => Below W1.heap.size W1 wS) (by kernel_rfl) (bl_drewN (Below.refl _ _) 1) (fun hHeld => ?_)
    try simp only [zzA, zzB, zzC, Act.put, zzD, zzE, zzF]
    refine wpAnyH_take (i := 0) (v := .agg #[.int .i64 (S : Int), .slice Ae ne ce, .slice Ax nx cx]) rfl (by kernel_rfl) (by kernel_rfl) (by kernel_rfl) (fun _ _ _ h => h) (yields_part 25 3 (by rfl) (.tmp 1) rfl ⟨g1, 0, none⟩ rfl [.int .i64 (S : Int), .slice Ae ne ce, .slice Ax nx cx] agg_net sz_net rfl (fun W2 hSw j u hu => by rw [addr_mk, cell_of_row W2 g1 _ _ _ _ ((hSw.block g1 (Array.getElem?_eq_some_iff.1 K1.out).1).trans K1.out)]; simpa using hu)) hHeld ?_
    try simp only [zzA, zzB, zzC, Act.put, zzD, zzE, zzF]
    refine wpAnyH_take (i := 1) (v := ?vzq1) rfl (by kernel_rfl) (by kernel_rfl) (by kernel_rfl) (fun _ _ _ h => h) (Or.inl ⟨by rfl, ?yzq1⟩) hHeld ?rzq1
    case yzq1 => (intro wS hSw; clear hSw; go_simp; try (with_reducible rfl))
    try simp only [zzA, zzB, zzC, Act.put, zzD, zzE, zzF]
    refine wpAnyH_take (i := 2) (v := ?vzq2) rfl (by kernel_rfl) (by kernel_rfl) (by kernel_rfl) (fun _ _ _ h => h) (Or.inl ⟨by rfl, ?yzq2⟩) hHeld ?rzq2
    case yzq2 => (intro wS hSw; have q := cell_of_row wS g1 0 _ _ _ ((hSw.block g1 (Array.getElem?_eq_some_iff.1 K1.out).1).trans K1.out); clear hSw; go_simp; try (with_reducible rfl))
    try simp only [zzA, zzB, zzC, Act.put, zzD, zzE, zzF]
    refine wpAnyH_take (i := 3) (v := ?vzq3) rfl (by kernel_rfl) (by kernel_rfl) (by kernel_rfl) (fun _ _ _ h => h) (Or.inl ⟨by rfl, ?yzq3⟩) hHeld ?rzq3
    case yzq3 => (intro wS hSw; clear hSw; go_simp; try (with_reducible rfl))
    try simp only [zzA, zzB, zzC, Act.put, zzD, zzE, zzF]
    refine wpAnyH_take (i := 5) (v := ?vzq5) rfl (by kernel_rfl) (by kernel_rfl) (by kernel_rfl) (fun _ _ _ h => h) (Or.inl ⟨by rfl, ?yzq5⟩) hHeld ?rzq5
    case yzq5 => (intro wS hSw; clear hSw; go_simp; try (with_reducible rfl))
    try simp only [zzA, zzB, zzC, Act.put, zzD, zzE, zzF]
    refine wpAnyH_take (i := 6) (v := ?vzq6) rfl (by kernel_rfl) (by kernel_rfl) (by kernel_rfl) (fun _ _ _ h => h) (Or.inl ⟨by rfl, ?yzq6⟩) hHeld ?rzq6
    case yzq6 => (intro wS hSw; have q := cell_of_row wS g1 1 _ _ _ ((hSw.block g1 (Array.getElem?_eq_some_iff.1 K1.out).1).trans K1.out); clear hSw; go_simp; try (with_reducible rfl))
    try simp only [zzA, zzB, zzC, Act.put, zzD, zzE, zzF]
    refine wpAnyH_take (i := 7) (v := ?vzq7) rfl (by kernel_rfl) (by kernel_rfl) (by kernel_rfl) (fun _ _ _ h => h) (Or.inl ⟨by rfl, ?yzq7⟩) hHeld ?rzq7
    case yzq7 => (intro wS hSw; clear hSw; go_simp; try (with_reducible rfl))
    try simp only [zzA, zzB, zzC, Act.put, zzD, zzE, zzF]
    generalize hwa0 : W1.drew = wa0 at *
    clear hwa0
    refine wpAnyH_ready (rs := [4, 8, 10]) (by kernel_rfl) (by simp) (AllReadyH.cons rfl (fun K hK => ?_) (AllReadyH.cons rfl (fun K hK => ?_) (AllReadyH.cons rfl (fun K hK => ?_) AllReadyH.nil)))
    · go_simp
      have hk4 := heap_alloc_new wa0 (.cells (rowN (S + 1) (fun _ => 0)) 3)
      have hsz4 := hHeld.size
      have hb := bl_alloc hHeld (.cells (rowN (S + 1) (fun _ => 0)) 3)
      refine hK.out _ _ hb (fun hHeld => ?_)
      clear hK K hb
      generalize wa0.alloc (.cells (rowN (S + 1) (fun _ => 0)) 3) = wa1 at *
      generalize wa0.heap.size = p4 at *
      try simp only [zzA, zzB, zzC, Act.put, zzD, zzE, zzF]
      refine wpAnyH_ready (rs := [8, 10]) (by kernel_rfl) (by simp) (AllReadyH.cons rfl (fun K hK => ?_) (AllReadyH.cons rfl (fun K hK => ?_) AllReadyH.nil))
      · go_simp
        have hk8 := heap_alloc_new wa1 (.cells (rowN ne (fun _ => 0)) 3)
        have hl48 := (Array.getElem?_eq_some_iff.1 hk4).1
        have hn4 := (Below.heap_alloc wa1 (.cells (rowN ne (fun _ => 0)) 3) p4 hl48).trans hk4
        clear hk4
        have hk4 := hn4
        clear hn4
        have hsz8 := hHeld.size
        have hb := bl_alloc hHeld (.cells (rowN ne (fun _ => 0)) 3)
        refine hK.out _ _ hb (fun hHeld => ?_)
        clear hK K hb
        generalize wa1.alloc (.cells (rowN ne (fun _ => 0)) 3) = wa2 at *
        generalize wa1.heap.size = p8 at *
        try simp only [zzA, zzB, zzC, Act.put, zzD, zzE, zzF]
        refine wpAnyH_take (i := 9) (v := .agg #[.int .i64 (S : Int), .slice Ae ne ce, .slice Ax nx cx, .slice (some ⟨p4, 0, none⟩) (S + 1) (S + 1), .slice (some ⟨p8, 0, none⟩) ne ne]) rfl (by kernel_rfl) (by kernel_rfl) (by kernel_rfl) (fun _ _ _ h => h) (Or.inl ⟨by rfl, ?yb48⟩) hHeld ?rb48
        case yb48 => (intro wS hSw; clear hSw; go_simp; try (with_reducible rfl))
        try simp only [zzA, zzB, zzC, Act.put, zzD, zzE, zzF]
        refine wpAnyH_ready (rs := [10]) (by kernel_rfl) (by simp) (AllReadyH.cons rfl (fun K hK => ?_) AllReadyH.nil)
        go_simp
        have hk10 := heap_alloc_new wa2 (.cells #[.int .i64 0, .slice none 0 0, .slice none 0 0, .slice none 0 0, .slice none 0 0] 114)
        have hl410 := (Array.getElem?_eq_some_iff.1 hk4).1
        have hn4 := (Below.heap_alloc wa2 (.cells #[.int .i64 0, .slice none 0 0, .slice none 0 0, .slice none 0 0, .slice none 0 0] 114) p4 hl410).trans hk4
        clear hk4
        have hk4 := hn4
        clear hn4
        have hl810 := (Array.getElem?_eq_some_iff.1 hk8).1
        have hn8 := (Below.heap_alloc wa2 (.cells #[.int .i64 0, .slice none 0 0, .slice none 0 0, .slice none 0 0, .slice none 0 0] 114) p8 hl810).trans hk8
        clear hk8
        have hk8 := hn8
        clear hn8
        have hsz10 := hHeld.size
        have hb := bl_alloc hHeld (.cells #[.int .i64 0, .slice none 0 0, .slice none 0 0, .slice none 0 0, .slice none 0 0] 114)
        refine hK.out _ _ hb (fun hHeld => ?_)
        clear hK K hb
        generalize wa2.alloc (.cells #[.int .i64 0, .slice none 0 0, .slice none 0 0, .slice none 0 0, .slice none 0 0] 114) = wa3 at *
        generalize wa2.heap.size = p10 at *
        try simp only [zzA, zzB, zzC, Act.put, zzD, zzE, zzF]
        refine wpAnyH_ready (rs := [11]) (by kernel_rfl) (by simp) (AllReadyH.cons rfl (fun K hK => ?_) AllReadyH.nil)
        rw [if_pos (by rfl)]
        refine wp_store_row 114 _ _ rfl p10 #[.int .i64 (S : Int), .slice Ae ne ce, .slice Ax nx cx, .slice (some ⟨p4, 0, none⟩) (S + 1) (S + 1), .slice (some ⟨p8, 0, none⟩) ne ne] rfl rfl 114 _ hk10 (by rw [size_sorted]; rfl) rfl (by simp [Value.oneCell']) ?_
        have hn10 := setRow_heap _ _ _ #[.int .i64 (S : Int), .slice Ae ne ce, .slice Ax nx cx, .slice (some ⟨p4, 0, none⟩) (S + 1) (S + 1), .slice (some ⟨p8, 0, none⟩) ne ne] _ _ hk10
        have hn4 := (setRow_other wa3 p10 p4 #[.int .i64 (S : Int), .slice Ae ne ce, .slice Ax nx cx, .slice (some ⟨p4, 0, none⟩) (S + 1) (S + 1), .slice (some ⟨p8, 0, none⟩) ne ne] (by omega)).trans hk4
        have hn8 := (setRow_other wa3 p10 p8 #[.int .i64 (S : Int), .slice Ae ne ce, .slice Ax nx cx, .slice (some ⟨p4, 0, none⟩) (S + 1) (S + 1), .slice (some ⟨p8, 0, none⟩) ne ne] (by omega)).trans hk8
        have hb := bl_setRow hHeld hsz10 #[.int .i64 (S : Int), .slice Ae ne ce, .slice Ax nx cx, .slice (some ⟨p4, 0, none⟩) (S + 1) (S + 1), .slice (some ⟨p8, 0, none⟩) ne ne]
        refine hK.out _ _ hb (fun hHeld => ?_)
        clear hK K hb hk4 hk8 hk10
        generalize wa3.setRow p10 #[.int .i64 (S : Int), .slice Ae ne ce, .slice Ax nx cx, .slice (some ⟨p4, 0, none⟩) (S + 1) (S + 1), .slice (some ⟨p8, 0, none⟩) ne ne] = wa4 at *
        try simp only [zzA, zzB, zzC, Act.put, zzD, zzE, zzF]
        refine wpAnyH_done (by kernel_rfl) ?_ _
        go_wp2_with fail
        go_meet
        have hsz := B1.out.size
        have hb1 := HG1.out
        exact ⟨p10, p4, p8, rfl, hn10, (hHeld.block _ (Array.getElem?_eq_some_iff.1 K1.out).1).trans K1.out, (hHeld.block _ (Array.getElem?_eq_some_iff.1 K2.out).1).trans K2.out, hn4, hn8, bl_trans B1.out hHeld, by omega, by omega, by omega, by omega, by omega⟩
      · go_simp
        have hk10 := heap_alloc_new wa1 (.cells #[.int .i64 0, .slice none 0 0, .slice none 0 0, .slice none 0 0, .slice none 0 0] 114)
        have hl410 := (Array.getElem?_eq_some_iff.1 hk4).1
        have hn4 := (Below.heap_alloc wa1 (.cells #[.int .i64 0, .slice none 0 0, .slice none 0 0, .slice none 0 0, .slice none 0 0] 114) p4 hl410).trans hk4
        clear hk4
        have hk4 := hn4
        clear hn4
        have hsz10 := hHeld.size
        have hb := bl_alloc hHeld (.cells #[.int .i64 0, .slice none 0 0, .slice none 0 0, .slice none 0 0, .slice none 0 0] 114)
        refine hK.out _ _ hb (fun hHeld => ?_)
        clear hK K hb
        generalize wa1.alloc (.cells #[.int .i64 0, .slice none 0 0, .slice none 0 0, .slice none 0 0, .slice none 0 0] 114) = wa5 at *
        generalize wa1.heap.size = p10 at *
        try simp only [zzA, zzB, zzC, Act.put, zzD, zzE, zzF]
        refine wpAnyH_ready (rs := [8]) (by kernel_rfl) (by simp) (AllReadyH.cons rfl (fun K hK => ?_) AllReadyH.nil)
        go_simp
        have hk8 := heap_alloc_new wa5 (.cells (rowN ne (fun _ => 0)) 3)
        have hl48 := (Array.getElem?_eq_some_iff.1 hk4).1
        have hn4 := (Below.heap_alloc wa5 (.cells (rowN ne (fun _ => 0)) 3) p4 hl48).trans hk4
        clear hk4
        have hk4 := hn4
        clear hn4
        have hl108 := (Array.getElem?_eq_some_iff.1 hk10).1
        have hn10 := (Below.heap_alloc wa5 (.cells (rowN ne (fun _ => 0)) 3) p10 hl108).trans hk10
        clear hk10
        have hk10 := hn10
        clear hn10
        have hsz8 := hHeld.size
        have hb := bl_alloc hHeld (.cells (rowN ne (fun _ => 0)) 3)
        refine hK.out _ _ hb (fun hHeld => ?_)
        clear hK K hb
        generalize wa5.alloc (.cells (rowN ne (fun _ => 0)) 3) = wa6 at *
        generalize wa5.heap.size = p8 at *
        try simp only [zzA, zzB, zzC, Act.put, zzD, zzE, zzF]
        refine wpAnyH_take (i := 9) (v := .agg #[.int .i64 (S : Int), .slice Ae ne ce, .slice Ax nx cx, .slice (some ⟨p4, 0, none⟩) (S + 1) (S + 1), .slice (some ⟨p8, 0, none⟩) ne ne]) rfl (by kernel_rfl) (by kernel_rfl) (by kernel_rfl) (fun _ _ _ h => h) (Or.inl ⟨by rfl, ?yb4108⟩) hHeld ?rb4108
        case yb4108 => (intro wS hSw; clear hSw; go_simp; try (with_reducible rfl))
        try simp only [zzA, zzB, zzC, Act.put, zzD, zzE, zzF]
        refine wpAnyH_ready (rs := [11]) (by kernel_rfl) (by simp) (AllReadyH.cons rfl (fun K hK => ?_) AllReadyH.nil)
        rw [if_pos (by rfl)]
        refine wp_store_row 114 _ _ rfl p10 #[.int .i64 (S : Int), .slice Ae ne ce, .slice Ax nx cx, .slice (some ⟨p4, 0, none⟩) (S + 1) (S + 1), .slice (some ⟨p8, 0, none⟩) ne ne] rfl rfl 114 _ hk10 (by rw [size_sorted]; rfl) rfl (by simp [Value.oneCell']) ?_
        have hn10 := setRow_heap _ _ _ #[.int .i64 (S : Int), .slice Ae ne ce, .slice Ax nx cx, .slice (some ⟨p4, 0, none⟩) (S + 1) (S + 1), .slice (some ⟨p8, 0, none⟩) ne ne] _ _ hk10
        have hn4 := (setRow_other wa6 p10 p4 #[.int .i64 (S : Int), .slice Ae ne ce, .slice Ax nx cx, .slice (some ⟨p4, 0, none⟩) (S + 1) (S + 1), .slice (some ⟨p8, 0, none⟩) ne ne] (by omega)).trans hk4
        have hn8 := (setRow_other wa6 p10 p8 #[.int .i64 (S : Int), .slice Ae ne ce, .slice Ax nx cx, .slice (some ⟨p4, 0, none⟩) (S + 1) (S + 1), .slice (some ⟨p8, 0, none⟩) ne ne] (by omega)).trans hk8
        have hb := bl_setRow hHeld hsz10 #[.int .i64 (S : Int), .slice Ae ne ce, .slice Ax nx cx, .slice (some ⟨p4, 0, none⟩) (S + 1) (S + 1), .slice (some ⟨p8, 0, none⟩) ne ne]
        refine hK.out _ _ hb (fun hHeld => ?_)
        clear hK K hb hk4 hk8 hk10
        generalize wa6.setRow p10 #[.int .i64 (S : Int), .slice Ae ne ce, .slice Ax nx cx, .slice (some ⟨p4, 0, none⟩) (S + 1) (S + 1), .slice (some ⟨p8, 0, none⟩) ne ne] = wa7 at *
        try simp only [zzA, zzB, zzC, Act.put, zzD, zzE, zzF]
        refine wpAnyH_done (by kernel_rfl) ?_ _
        go_wp2_with fail
        go_meet
        have hsz := B1.out.size
        have hb1 := HG1.out
        exact ⟨p10, p4, p8, rfl, hn10, (hHeld.block _ (Array.getElem?_eq_some_iff.1 K1.out).1).trans K1.out, (hHeld.block _ (Array.getElem?_eq_some_iff.1 K2.out).1).trans K2.out, hn4, hn8, bl_trans B1.out hHeld, by omega, by omega, by omega, by omega, by omega⟩
    · go_simp
      have hk8 := heap_alloc_new wa0 (.cells (rowN ne (fun _ => 0)) 3)
      have hsz8 := hHeld.size
      have hb := bl_alloc hHeld (.cells (rowN ne (fun _ => 0)) 3)
      refine hK.out _ _ hb (fun hHeld => ?_)
      clear hK K hb
      generalize wa0.alloc (.cells (rowN ne (fun _ => 0)) 3) = wa8 at *
      generalize wa0.heap.size = p8 at *
      try simp only [zzA, zzB, zzC, Act.put, zzD, zzE, zzF]
      refine wpAnyH_ready (rs := [4, 10]) (by kernel_rfl) (by simp) (AllReadyH.cons rfl (fun K hK => ?_) (AllReadyH.cons rfl (fun K hK => ?_) AllReadyH.nil))
      · go_simp
        have hk4 := heap_alloc_new wa8 (.cells (rowN (S + 1) (fun _ => 0)) 3)
        have hl84 := (Array.getElem?_eq_some_iff.1 hk8).1
        have hn8 := (Below.heap_alloc wa8 (.cells (rowN (S + 1) (fun _ => 0)) 3) p8 hl84).trans hk8
        clear hk8
        have hk8 := hn8
        clear hn8
        have hsz4 := hHeld.size
        have hb := bl_alloc hHeld (.cells (rowN (S + 1) (fun _ => 0)) 3)
        refine hK.out _ _ hb (fun hHeld => ?_)
        clear hK K hb
        generalize wa8.alloc (.cells (rowN (S + 1) (fun _ => 0)) 3) = wa9 at *
        generalize wa8.heap.size = p4 at *
        try simp only [zzA, zzB, zzC, Act.put, zzD, zzE, zzF]
        refine wpAnyH_take (i := 9) (v := .agg #[.int .i64 (S : Int), .slice Ae ne ce, .slice Ax nx cx, .slice (some ⟨p4, 0, none⟩) (S + 1) (S + 1), .slice (some ⟨p8, 0, none⟩) ne ne]) rfl (by kernel_rfl) (by kernel_rfl) (by kernel_rfl) (fun _ _ _ h => h) (Or.inl ⟨by rfl, ?yb84⟩) hHeld ?rb84
        case yb84 => (intro wS hSw; clear hSw; go_simp; try (with_reducible rfl))
        try simp only [zzA, zzB, zzC, Act.put, zzD, zzE, zzF]
        refine wpAnyH_ready (rs := [10]) (by kernel_rfl) (by simp) (AllReadyH.cons rfl (fun K hK => ?_) AllReadyH.nil)
        go_simp
        have hk10 := heap_alloc_new wa9 (.cells #[.int .i64 0, .slice none 0 0, .slice none 0 0, .slice none 0 0, .slice none 0 0] 114)
        have hl810 := (Array.getElem?_eq_some_iff.1 hk8).1
        have hn8 := (Below.heap_alloc wa9 (.cells #[.int .i64 0, .slice none 0 0, .slice none 0 0, .slice none 0 0, .slice none 0 0] 114) p8 hl810).trans hk8
        clear hk8
        have hk8 := hn8
        clear hn8
        have hl410 := (Array.getElem?_eq_some_iff.1 hk4).1
        have hn4 := (Below.heap_alloc wa9 (.cells #[.int .i64 0, .slice none 0 0, .slice none 0 0, .slice none 0 0, .slice none 0 0] 114) p4 hl410).trans hk4
        clear hk4
        have hk4 := hn4
        clear hn4
        have hsz10 := hHeld.size
        have hb := bl_alloc hHeld (.cells #[.int .i64 0, .slice none 0 0, .slice none 0 0, .slice none 0 0, .slice none 0 0] 114)
        refine hK.out _ _ hb (fun hHeld => ?_)
        clear hK K hb
        generalize wa9.alloc (.cells #[.int .i64 0, .slice none 0 0, .slice none 0 0, .slice none 0 0, .slice none 0 0] 114) = wa10 at *
        generalize wa9.heap.size = p10 at *
        try simp only [zzA, zzB, zzC, Act.put, zzD, zzE, zzF]
        refine wpAnyH_ready (rs := [11]) (by kernel_rfl) (by simp) (AllReadyH.cons rfl (fun K hK => ?_) AllReadyH.nil)
        rw [if_pos (by rfl)]
        refine wp_store_row 114 _ _ rfl p10 #[.int .i64 (S : Int), .slice Ae ne ce, .slice Ax nx cx, .slice (some ⟨p4, 0, none⟩) (S + 1) (S + 1), .slice (some ⟨p8, 0, none⟩) ne ne] rfl rfl 114 _ hk10 (by rw [size_sorted]; rfl) rfl (by simp [Value.oneCell']) ?_
        have hn10 := setRow_heap _ _ _ #[.int .i64 (S : Int), .slice Ae ne ce, .slice Ax nx cx, .slice (some ⟨p4, 0, none⟩) (S + 1) (S + 1), .slice (some ⟨p8, 0, none⟩) ne ne] _ _ hk10
        have hn4 := (setRow_other wa10 p10 p4 #[.int .i64 (S : Int), .slice Ae ne ce, .slice Ax nx cx, .slice (some ⟨p4, 0, none⟩) (S + 1) (S + 1), .slice (some ⟨p8, 0, none⟩) ne ne] (by omega)).trans hk4
        have hn8 := (setRow_other wa10 p10 p8 #[.int .i64 (S : Int), .slice Ae ne ce, .slice Ax nx cx, .slice (some ⟨p4, 0, none⟩) (S + 1) (S + 1), .slice (some ⟨p8, 0, none⟩) ne ne] (by omega)).trans hk8
        have hb := bl_setRow hHeld hsz10 #[.int .i64 (S : Int), .slice Ae ne ce, .slice Ax nx cx, .slice (some ⟨p4, 0, none⟩) (S + 1) (S + 1), .slice (some ⟨p8, 0, none⟩) ne ne]
        refine hK.out _ _ hb (fun hHeld => ?_)
        clear hK K hb hk4 hk8 hk10
        generalize wa10.setRow p10 #[.int .i64 (S : Int), .slice Ae ne ce, .slice Ax nx cx, .slice (some ⟨p4, 0, none⟩) (S + 1) (S + 1), .slice (some ⟨p8, 0, none⟩) ne ne] = wa11 at *
        try simp only [zzA, zzB, zzC, Act.put, zzD, zzE, zzF]
        refine wpAnyH_done (by kernel_rfl) ?_ _
        go_wp2_with fail
        go_meet
        have hsz := B1.out.size
        have hb1 := HG1.out
        exact ⟨p10, p4, p8, rfl, hn10, (hHeld.block _ (Array.getElem?_eq_some_iff.1 K1.out).1).trans K1.out, (hHeld.block _ (Array.getElem?_eq_some_iff.1 K2.out).1).trans K2.out, hn4, hn8, bl_trans B1.out hHeld, by omega, by omega, by omega, by omega, by omega⟩
      · go_simp
        have hk10 := heap_alloc_new wa8 (.cells #[.int .i64 0, .slice none 0 0, .slice none 0 0, .slice none 0 0, .slice none 0 0] 114)
        have hl810 := (Array.getElem?_eq_some_iff.1 hk8).1
        have hn8 := (Below.heap_alloc wa8 (.cells #[.int .i64 0, .slice none 0 0, .slice none 0 0, .slice none 0 0, .slice none 0 0] 114) p8 hl810).trans hk8
        clear hk8
        have hk8 := hn8
        clear hn8
        have hsz10 := hHeld.size
        have hb := bl_alloc hHeld (.cells #[.int .i64 0, .slice none 0 0, .slice none 0 0, .slice none 0 0, .slice none 0 0] 114)
        refine hK.out _ _ hb (fun hHeld => ?_)
        clear hK K hb
        generalize wa8.alloc (.cells #[.int .i64 0, .slice none 0 0, .slice none 0 0, .slice none 0 0, .slice none 0 0] 114) = wa12 at *
        generalize wa8.heap.size = p10 at *
        try simp only [zzA, zzB, zzC, Act.put, zzD, zzE, zzF]
        refine wpAnyH_ready (rs := [4]) (by kernel_rfl) (by simp) (AllReadyH.cons rfl (fun K hK => ?_) AllReadyH.nil)
        go_simp
        have hk4 := heap_alloc_new wa12 (.cells (rowN (S + 1) (fun _ => 0)) 3)
        have hl84 := (Array.getElem?_eq_some_iff.1 hk8).1
        have hn8 := (Below.heap_alloc wa12 (.cells (rowN (S + 1) (fun _ => 0)) 3) p8 hl84).trans hk8
        clear hk8
        have hk8 := hn8
        clear hn8
        have hl104 := (Array.getElem?_eq_some_iff.1 hk10).1
        have hn10 := (Below.heap_alloc wa12 (.cells (rowN (S + 1) (fun _ => 0)) 3) p10 hl104).trans hk10
        clear hk10
        have hk10 := hn10
        clear hn10
        have hsz4 := hHeld.size
        have hb := bl_alloc hHeld (.cells (rowN (S + 1) (fun _ => 0)) 3)
        refine hK.out _ _ hb (fun hHeld => ?_)
        clear hK K hb
        generalize wa12.alloc (.cells (rowN (S + 1) (fun _ => 0)) 3) = wa13 at *
        generalize wa12.heap.size = p4 at *
        try simp only [zzA, zzB, zzC, Act.put, zzD, zzE, zzF]
        refine wpAnyH_take (i := 9) (v := .agg #[.int .i64 (S : Int), .slice Ae ne ce, .slice Ax nx cx, .slice (some ⟨p4, 0, none⟩) (S + 1) (S + 1), .slice (some ⟨p8, 0, none⟩) ne ne]) rfl (by kernel_rfl) (by kernel_rfl) (by kernel_rfl) (fun _ _ _ h => h) (Or.inl ⟨by rfl, ?yb8104⟩) hHeld ?rb8104
        case yb8104 => (intro wS hSw; clear hSw; go_simp; try (with_reducible rfl))
        try simp only [zzA, zzB, zzC, Act.put, zzD, zzE, zzF]
        refine wpAnyH_ready (rs := [11]) (by kernel_rfl) (by simp) (AllReadyH.cons rfl (fun K hK => ?_) AllReadyH.nil)
        rw [if_pos (by rfl)]
        refine wp_store_row 114 _ _ rfl p10 #[.int .i64 (S : Int), .slice Ae ne ce, .slice Ax nx cx, .slice (some ⟨p4, 0, none⟩) (S + 1) (S + 1), .slice (some ⟨p8, 0, none⟩) ne ne] rfl rfl 114 _ hk10 (by rw [size_sorted]; rfl) rfl (by simp [Value.oneCell']) ?_
        have hn10 := setRow_heap _ _ _ #[.int .i64 (S : Int), .slice Ae ne ce, .slice Ax nx cx, .slice (some ⟨p4, 0, none⟩) (S + 1) (S + 1), .slice (some ⟨p8, 0, none⟩) ne ne] _ _ hk10
        have hn4 := (setRow_other wa13 p10 p4 #[.int .i64 (S : Int), .slice Ae ne ce, .slice Ax nx cx, .slice (some ⟨p4, 0, none⟩) (S + 1) (S + 1), .slice (some ⟨p8, 0, none⟩) ne ne] (by omega)).trans hk4
        have hn8 := (setRow_other wa13 p10 p8 #[.int .i64 (S : Int), .slice Ae ne ce, .slice Ax nx cx, .slice (some ⟨p4, 0, none⟩) (S + 1) (S + 1), .slice (some ⟨p8, 0, none⟩) ne ne] (by omega)).trans hk8
        have hb := bl_setRow hHeld hsz10 #[.int .i64 (S : Int), .slice Ae ne ce, .slice Ax nx cx, .slice (some ⟨p4, 0, none⟩) (S + 1) (S + 1), .slice (some ⟨p8, 0, none⟩) ne ne]
        refine hK.out _ _ hb (fun hHeld => ?_)
        clear hK K hb hk4 hk8 hk10
        generalize wa13.setRow p10 #[.int .i64 (S : Int), .slice Ae ne ce, .slice Ax nx cx, .slice (some ⟨p4, 0, none⟩) (S + 1) (S + 1), .slice (some ⟨p8, 0, none⟩) ne ne] = wa14 at *
        try simp only [zzA, zzB, zzC, Act.put, zzD, zzE, zzF]
        refine wpAnyH_done (by kernel_rfl) ?_ _
        go_wp2_with fail
        go_meet
        have hsz := B1.out.size
        have hb1 := HG1.out
        exact ⟨p10, p4, p8, rfl, hn10, (hHeld.block _ (Array.getElem?_eq_some_iff.1 K1.out).1).trans K1.out, (hHeld.block _ (Array.getElem?_eq_some_iff.1 K2.out).1).trans K2.out, hn4, hn8, bl_trans B1.out hHeld, by omega, by omega, by omega, by omega, by omega⟩
    · go_simp
      have hk10 := heap_alloc_new wa0 (.cells #[.int .i64 0, .slice none 0 0, .slice none 0 0, .slice none 0 0, .slice none 0 0] 114)
      have hsz10 := hHeld.size
      have hb := bl_alloc hHeld (.cells #[.int .i64 0, .slice none 0 0, .slice none 0 0, .slice none 0 0, .slice none 0 0] 114)
      refine hK.out _ _ hb (fun hHeld => ?_)
      clear hK K hb
      generalize wa0.alloc (.cells #[.int .i64 0, .slice none 0 0, .slice none 0 0, .slice none 0 0, .slice none 0 0] 114) = wa15 at *
      generalize wa0.heap.size = p10 at *
      try simp only [zzA, zzB, zzC, Act.put, zzD, zzE, zzF]
      refine wpAnyH_ready (rs := [4, 8]) (by kernel_rfl) (by simp) (AllReadyH.cons rfl (fun K hK => ?_) (AllReadyH.cons rfl (fun K hK => ?_) AllReadyH.nil))
      · go_simp
        have hk4 := heap_alloc_new wa15 (.cells (rowN (S + 1) (fun _ => 0)) 3)
        have hl104 := (Array.getElem?_eq_some_iff.1 hk10).1
        have hn10 := (Below.heap_alloc wa15 (.cells (rowN (S + 1) (fun _ => 0)) 3) p10 hl104).trans hk10
        clear hk10
        have hk10 := hn10
        clear hn10
        have hsz4 := hHeld.size
        have hb := bl_alloc hHeld (.cells (rowN (S + 1) (fun _ => 0)) 3)
        refine hK.out _ _ hb (fun hHeld => ?_)
        clear hK K hb
        generalize wa15.alloc (.cells (rowN (S + 1) (fun _ => 0)) 3) = wa16 at *
        generalize wa15.heap.size = p4 at *
        try simp only [zzA, zzB, zzC, Act.put, zzD, zzE, zzF]
        refine wpAnyH_ready (rs := [8]) (by kernel_rfl) (by simp) (AllReadyH.cons rfl (fun K hK => ?_) AllReadyH.nil)
        go_simp
        have hk8 := heap_alloc_new wa16 (.cells (rowN ne (fun _ => 0)) 3)
        have hl108 := (Array.getElem?_eq_some_iff.1 hk10).1
        have hn10 := (Below.heap_alloc wa16 (.cells (rowN ne (fun _ => 0)) 3) p10 hl108).trans hk10
        clear hk10
        have hk10 := hn10
        clear hn10
        have hl48 := (Array.getElem?_eq_some_iff.1 hk4).1
        have hn4 := (Below.heap_alloc wa16 (.cells (rowN ne (fun _ => 0)) 3) p4 hl48).trans hk4
        clear hk4
        have hk4 := hn4
        clear hn4
        have hsz8 := hHeld.size
        have hb := bl_alloc hHeld (.cells (rowN ne (fun _ => 0)) 3)
        refine hK.out _ _ hb (fun hHeld => ?_)
        clear hK K hb
        generalize wa16.alloc (.cells (rowN ne (fun _ => 0)) 3) = wa17 at *
        generalize wa16.heap.size = p8 at *
        try simp only [zzA, zzB, zzC, Act.put, zzD, zzE, zzF]
        refine wpAnyH_take (i := 9) (v := .agg #[.int .i64 (S : Int), .slice Ae ne ce, .slice Ax nx cx, .slice (some ⟨p4, 0, none⟩) (S + 1) (S + 1), .slice (some ⟨p8, 0, none⟩) ne ne]) rfl (by kernel_rfl) (by kernel_rfl) (by kernel_rfl) (fun _ _ _ h => h) (Or.inl ⟨by rfl, ?yb1048⟩) hHeld ?rb1048
        case yb1048 => (intro wS hSw; clear hSw; go_simp; try (with_reducible rfl))
        try simp only [zzA, zzB, zzC, Act.put, zzD, zzE, zzF]
        refine wpAnyH_ready (rs := [11]) (by kernel_rfl) (by simp) (AllReadyH.cons rfl (fun K hK => ?_) AllReadyH.nil)
        rw [if_pos (by rfl)]
        refine wp_store_row 114 _ _ rfl p10 #[.int .i64 (S : Int), .slice Ae ne ce, .slice Ax nx cx, .slice (some ⟨p4, 0, none⟩) (S + 1) (S + 1), .slice (some ⟨p8, 0, none⟩) ne ne] rfl rfl 114 _ hk10 (by rw [size_sorted]; rfl) rfl (by simp [Value.oneCell']) ?_
        have hn10 := setRow_heap _ _ _ #[.int .i64 (S : Int), .slice Ae ne ce, .slice Ax nx cx, .slice (some ⟨p4, 0, none⟩) (S + 1) (S + 1), .slice (some ⟨p8, 0, none⟩) ne ne] _ _ hk10
        have hn4 := (setRow_other wa17 p10 p4 #[.int .i64 (S : Int), .slice Ae ne ce, .slice Ax nx cx, .slice (some ⟨p4, 0, none⟩) (S + 1) (S + 1), .slice (some ⟨p8, 0, none⟩) ne ne] (by omega)).trans hk4
        have hn8 := (setRow_other wa17 p10 p8 #[.int .i64 (S : Int), .slice Ae ne ce, .slice Ax nx cx, .slice (some ⟨p4, 0, none⟩) (S + 1) (S + 1), .slice (some ⟨p8, 0, none⟩) ne ne] (by omega)).trans hk8
        have hb := bl_setRow hHeld hsz10 #[.int .i64 (S : Int), .slice Ae ne ce, .slice Ax nx cx, .slice (some ⟨p4, 0, none⟩) (S + 1) (S + 1), .slice (some ⟨p8, 0, none⟩) ne ne]
        refine hK.out _ _ hb (fun hHeld => ?_)
        clear hK K hb hk4 hk8 hk10
        generalize wa17.setRow p10 #[.int .i64 (S : Int), .slice Ae ne ce, .slice Ax nx cx, .slice (some ⟨p4, 0, none⟩) (S + 1) (S + 1), .slice (some ⟨p8, 0, none⟩) ne ne] = wa18 at *
        try simp only [zzA, zzB, zzC, Act.put, zzD, zzE, zzF]
        refine wpAnyH_done (by kernel_rfl) ?_ _
        go_wp2_with fail
        go_meet
        have hsz := B1.out.size
        have hb1 := HG1.out
        exact ⟨p10, p4, p8, rfl, hn10, (hHeld.block _ (Array.getElem?_eq_some_iff.1 K1.out).1).trans K1.out, (hHeld.block _ (Array.getElem?_eq_some_iff.1 K2.out).1).trans K2.out, hn4, hn8, bl_trans B1.out hHeld, by omega, by omega, by omega, by omega, by omega⟩
      · go_simp
        have hk8 := heap_alloc_new wa15 (.cells (rowN ne (fun _ => 0)) 3)
        have hl108 := (Array.getElem?_eq_some_iff.1 hk10).1
        have hn10 := (Below.heap_alloc wa15 (.cells (rowN ne (fun _ => 0)) 3) p10 hl108).trans hk10
        clear hk10
        have hk10 := hn10
        clear hn10
        have hsz8 := hHeld.size
        have hb := bl_alloc hHeld (.cells (rowN ne (fun _ => 0)) 3)
        refine hK.out _ _ hb (fun hHeld => ?_)
        clear hK K hb
        generalize wa15.alloc (.cells (rowN ne (fun _ => 0)) 3) = wa19 at *
        generalize wa15.heap.size = p8 at *
        try simp only [zzA, zzB, zzC, Act.put, zzD, zzE, zzF]
        refine wpAnyH_ready (rs := [4]) (by kernel_rfl) (by simp) (AllReadyH.cons rfl (fun K hK => ?_) AllReadyH.nil)
        go_simp
        have hk4 := heap_alloc_new wa19 (.cells (rowN (S + 1) (fun _ => 0)) 3)
        have hl104 := (Array.getElem?_eq_some_iff.1 hk10).1
        have hn10 := (Below.heap_alloc wa19 (.cells (rowN (S + 1) (fun _ => 0)) 3) p10 hl104).trans hk10
        clear hk10
        have hk10 := hn10
        clear hn10
        have hl84 := (Array.getElem?_eq_some_iff.1 hk8).1
        have hn8 := (Below.heap_alloc wa19 (.cells (rowN (S + 1) (fun _ => 0)) 3) p8 hl84).trans hk8
        clear hk8
        have hk8 := hn8
        clear hn8
        have hsz4 := hHeld.size
        have hb := bl_alloc hHeld (.cells (rowN (S + 1) (fun _ => 0)) 3)
        refine hK.out _ _ hb (fun hHeld => ?_)
        clear hK K hb
        generalize wa19.alloc (.cells (rowN (S + 1) (fun _ => 0)) 3) = wa20 at *
        generalize wa19.heap.size = p4 at *
        try simp only [zzA, zzB, zzC, Act.put, zzD, zzE, zzF]
        refine wpAnyH_take (i := 9) (v := .agg #[.int .i64 (S : Int), .slice Ae ne ce, .slice Ax nx cx, .slice (some ⟨p4, 0, none⟩) (S + 1) (S + 1), .slice (some ⟨p8, 0, none⟩) ne ne]) rfl (by kernel_rfl) (by kernel_rfl) (by kernel_rfl) (fun _ _ _ h => h) (Or.inl ⟨by rfl, ?yb1084⟩) hHeld ?rb1084
        case yb1084 => (intro wS hSw; clear hSw; go_simp; try (with_reducible rfl))
        try simp only [zzA, zzB, zzC, Act.put, zzD, zzE, zzF]
        refine wpAnyH_ready (rs := [11]) (by kernel_rfl) (by simp) (AllReadyH.cons rfl (fun K hK => ?_) AllReadyH.nil)
        rw [if_pos (by rfl)]
        refine wp_store_row 114 _ _ rfl p10 #[.int .i64 (S : Int), .slice Ae ne ce, .slice Ax nx cx, .slice (some ⟨p4, 0, none⟩) (S + 1) (S + 1), .slice (some ⟨p8, 0, none⟩) ne ne] rfl rfl 114 _ hk10 (by rw [size_sorted]; rfl) rfl (by simp [Value.oneCell']) ?_
        have hn10 := setRow_heap _ _ _ #[.int .i64 (S : Int), .slice Ae ne ce, .slice Ax nx cx, .slice (some ⟨p4, 0, none⟩) (S + 1) (S + 1), .slice (some ⟨p8, 0, none⟩) ne ne] _ _ hk10
        have hn4 := (setRow_other wa20 p10 p4 #[.int .i64 (S : Int), .slice Ae ne ce, .slice Ax nx cx, .slice (some ⟨p4, 0, none⟩) (S + 1) (S + 1), .slice (some ⟨p8, 0, none⟩) ne ne] (by omega)).trans hk4
        have hn8 := (setRow_other wa20 p10 p8 #[.int .i64 (S : Int), .slice Ae ne ce, .slice Ax nx cx, .slice (some ⟨p4, 0, none⟩) (S + 1) (S + 1), .slice (some ⟨p8, 0, none⟩) ne ne] (by omega)).trans hk8
        have hb := bl_setRow hHeld hsz10 #[.int .i64 (S : Int), .slice Ae ne ce, .slice Ax nx cx, .slice (some ⟨p4, 0, none⟩) (S + 1) (S + 1), .slice (some ⟨p8, 0, none⟩) ne ne]
        refine hK.out _ _ hb (fun hHeld => ?_)
        clear hK K hb hk4 hk8 hk10
        generalize wa20.setRow p10 #[.int .i64 (S : Int), .slice Ae ne ce, .slice Ax nx cx, .slice (some ⟨p4, 0, none⟩) (S + 1) (S + 1), .slice (some ⟨p8, 0, none⟩) ne ne] = wa21 at *
        try simp only [zzA, zzB, zzC, Act.put, zzD, zzE, zzF]
        refine wpAnyH_done (by kernel_rfl) ?_ _
        go_wp2_with fail
        go_meet
        have hsz := B1.out.size
        have hb1 := HG1.out
        exact ⟨p10, p4, p8, rfl, hn10, (hHeld.block _ (Array.getElem?_eq_some_iff.1 K1.out).1).trans K1.out, (hHeld.block _ (Array.getElem?_eq_some_iff.1 K2.out).1).trans K2.out, hn4, hn8, bl_trans B1.out hHeld, by omega, by omega, by omega, by omega, by omega⟩
  case rest =>
    obtain ⟨gs, gb, gp, rfl, so⟩ := hcut
    have S0 := Lib.hid so
    clear so mk1 mk2 bu hwS K1 K2 B1
    have j1 := S0.out.a1
    go_wp2_with fail
    clear j1
    go_loopw [23] (fun vi wr => ∃ k : Nat, k ≤ ne ∧ vi = .int .i64 (k : Int) ∧ Hid (SoS W g1 (g1 + 1) gs gb gp S Ae ne ce Ax nx cx (fb1 E k) (fun _ => 0) wr)) (fun vi _ => ne - (intOf vi).toNat)
    case atStart =>
      refine ⟨0, Nat.zero_le _, rfl, ?_⟩
      have h0 : fb1 E 0 = fun _ => 0 := by
        funext j
        cases j with
        | zero => rfl
        | succ j => exact cnte_zero E j
      rw [h0]
      exact S0.out
    case round =>
      obtain ⟨k, hk, rfl, SR⟩ := hrel
      clear S0
      by_cases hlt : k < ne
      · have hkl : k < E.length := by rw [HNE.out]; exact hlt
        obtain ⟨ad, hAe, hcs⟩ := (HR.out.below SR.out.below) k hkl
        subst hAe
        obtain ⟨x1, x2, _, _, _⟩ := HE.out _ (List.getElem_mem hkl)
        obtain ⟨s, hs⟩ : ∃ s : Nat, E[k].fr = (s : Int) := ⟨E[k].fr.toNat, by omega⟩
        have hsS : s < S := by omega
        have CS := Lib.hid (fun t => cnte_succ E t k hkl)
        generalize E[k] = e at *
        rw [hs] at CS
        have hcs' : ∀ j u, [Value.int .i64 (s : Int), .int .i64 e.to, dv e.set.w0, dv e.set.w1, dv e.set.w2, dv e.set.w3, .bool e.free][j]? = some u → wr.cell? ((ad.add (k * 7)).add j) = some u := fun j u hu => hcs j u (by unfold cellsE; rw [hs]; exact hu)
        have HCS := Lib.hid hcs'
        have hki : (k : Int) < (ne : Int) := by omega
        clear hcs hcs' x1 x2 hs hkl
        go_upto_region 5 with (refine wpList_load_part 53 7 _ rfl rfl (ad.add (k * 7)) rfl [.int .i64 (s : Int), .int .i64 e.to, .int .u64 (e.set.w0.toNat : Int), .int .u64 (e.set.w1.toNat : Int), .int .u64 (e.set.w2.toNat : Int), .int .u64 (e.set.w3.toNat : Int), .bool e.free] (agg_edge _) (sz_edge _) rfl HCS.out ?_)
        have bz := bl_alloc (Below.refl wr.heap.size wr) (.cells #[.int .i64 (s : Int), .int .i64 e.to, .int .u64 (e.set.w0.toNat : Int), .int .u64 (e.set.w1.toNat : Int), .int .u64 (e.set.w2.toNat : Int), .int .u64 (e.set.w3.toNat : Int), .bool e.free] 53)
        have kz := heap_alloc_new wr (.cells #[.int .i64 (s : Int), .int .i64 e.to, .int .u64 (e.set.w0.toNat : Int), .int .u64 (e.set.w1.toNat : Int), .int .u64 (e.set.w2.toNat : Int), .int .u64 (e.set.w3.toNat : Int), .bool e.free] 53)
        have S2 := Lib.hid (SR.out.then bz)
        clear bz SR
        generalize wr.alloc (.cells #[.int .i64 (s : Int), .int .i64 e.to, .int .u64 (e.set.w0.toNat : Int), .int .u64 (e.set.w1.toNat : Int), .int .u64 (e.set.w2.toNat : Int), .int .u64 (e.set.w3.toNat : Int), .bool e.free] 53) = w2 at *
        generalize wr.heap.size = ge at *
        obtain ⟨s1, hs1⟩ : ∃ x, s + 1 = x := ⟨_, rfl⟩
        obtain ⟨v, hv⟩ : ∃ x, cntE E s k = x := ⟨_, rfl⟩
        obtain ⟨v1, hv1⟩ : ∃ x, v + 1 = x := ⟨_, rfl⟩
        have hv8 : v ≤ 8192 := by rw [← hv]; exact Nat.le_trans (cnte_le E s k) (Nat.le_trans (List.length_filter_le _ _) (by rw [HNE.out]; exact hn8))
        have e1 : (s : Int) + 1 = (s1 : Int) := by omega
        have e2 : (v : Int) + 1 = (v1 : Int) := by omega
        have q0 := cell_of_row w2 ge 0 _ _ _ kz
        have q3 := S2.out.s3
        have qb := S2.out.hb.cell (show s1 < S + 1 by omega)
        rw [← hs1, show fb1 E k (s + 1) = v from hv, hs1] at qb
        have qf := S2.out.hb.free s1
        have hsi : (s1 : Int) < (S : Int) + 1 := by omega
        have S3 := Lib.hid (S2.out.setB (fb' := fb1 E (k + 1)) s1 v1 (fun j hj => by
          unfold upd
          cases j with
          | zero => rw [if_neg (by omega)]; rfl
          | succ j =>
            show _ = cntE E j (k + 1)
            rw [CS.out j]
            by_cases hjs : j = s
            · subst hjs
              rw [if_pos (by omega), if_pos rfl, hv, hv1]
            · rw [if_neg (by omega), if_neg (fun h => hjs (by omega))]
              rfl))
        clear S2 hs1 hv hv1 kz CS HCS
        go_wp2_with fail
        exact ⟨⟨k + 1, by omega, by go_num, S3.out⟩, by simp [intOf]; omega⟩
      · obtain rfl : k = ne := by omega
        have h2 : fb1 E k = fb2 E 0 := by
          funext j
          unfold fb2
          cases j with
          | zero => rfl
          | succ j => rw [if_neg (by omega), HNE.out]
        rw [h2] at SR
        have j0 := SR.out.a0
        go_wp2_with fail
        clear j0 h2
        have SR0 := Lib.hid SR.out
        clear SR
        go_loopw [39] (fun vi wr => ∃ i : Nat, i ≤ S ∧ vi = .int .i64 (i : Int) ∧ Hid (SoS W g1 (g1 + 1) gs gb gp S Ae k ce Ax nx cx (fb2 E i) (fun _ => 0) wr)) (fun vi _ => S - (intOf vi).toNat)
        case atStart => exact ⟨0, Nat.zero_le _, rfl, SR0.out⟩
        case round =>
          obtain ⟨i, hi, rfl, SR⟩ := hrel
          clear SR0
          by_cases hlt2 : i < S
          · obtain ⟨i1, hi1⟩ : ∃ x, i + 1 = x := ⟨_, rfl⟩
            obtain ⟨v, hv⟩ : ∃ x, begE E i = x := ⟨_, rfl⟩
            obtain ⟨u, hu⟩ : ∃ x, (outsE E i).length = x := ⟨_, rfl⟩
            obtain ⟨x, hx⟩ : ∃ x, u + v = x := ⟨_, rfl⟩
            have hv8 : v ≤ 8192 := by rw [← hv]; exact Nat.le_trans (beg_le E i) (by rw [HNE.out]; exact hn8)
            have hu8 : u ≤ 8192 := by rw [← hu]; exact Nat.le_trans (List.length_filter_le _ _) (by rw [HNE.out]; exact hn8)
            have e1 : (i : Int) + 1 = (i1 : Int) := by omega
            have e2 : (u : Int) + (v : Int) = (x : Int) := by omega
            have w1 : IntKind.i64.wrap (i1 : Int) = (i1 : Int) := IntWalk.i64_in _ (by omega)
            have w2 : IntKind.i64.wrap (x : Int) = (x : Int) := IntWalk.i64_in _ (by omega)
            have hli : (i : Int) < (S : Int) + 1 := by omega
            have hli1 : (i1 : Int) < (S : Int) + 1 := by omega
            have fi : fb2 E i i = v := by rw [fb2, if_pos (Nat.le_refl _), hv]
            have fi1 : fb2 E i i1 = u := by rw [fb2, if_neg (by omega), ← hi1, fb1, cnte_all, hu]
            have FI := Lib.hid fi
            have FI1 := Lib.hid fi1
            have H12 := Lib.hid (show i ≠ i1 by omega)
            have SD := Lib.hid (SR.out.then (bl_drewN (Below.refl _ wr) 1))
            have S3 := Lib.hid (SD.out.setB (fb' := fb2 E i1) i1 x (fun j hj => by
              unfold upd
              by_cases hj1 : j = i1
              · subst hj1
                rw [if_pos rfl, fb2, if_pos (Nat.le_refl _), ← hi1, begE, hv, hu, ← hx, Nat.add_comm]
              · rw [if_neg hj1]
                unfold fb2
                by_cases hji : j ≤ i
                · rw [if_pos hji, if_pos (by omega)]
                · rw [if_neg hji, if_neg (by omega)]))
            clear fi fi1 hv hu hx hi1 SR
            go_wp2_with fail
            refine wp_region_held_drew (S := fun wS => wS.cell? ⟨gs, 3, none⟩ = some (.slice (some ⟨gb, 0, none⟩) (S + 1) (S + 1)) ∧ wS.cell? ⟨gb, i, none⟩ = some (.int .i64 (v : Int))) (by kernel_rfl) ⟨SD.out.s3, by have h := SD.out.hb.cell (show i < S + 1 by omega); rw [FI.out] at h; exact h⟩ (fun hHeld => ?_)
            try simp only [zzA, zzB, zzC, Act.put, zzD, zzE, zzF]
            refine wpAnyH_take (i := 0) (v := ?vzb0) rfl (by kernel_rfl) (by kernel_rfl) (by kernel_rfl) (fun _ _ _ h => h) (Or.inl ⟨by rfl, ?yzb0⟩) hHeld ?rzb0
            case yzb0 => (intro wS hSw; clear hSw; go_simp; try (with_reducible rfl))
            try simp only [zzA, zzB, zzC, Act.put, zzD, zzE, zzF]
            refine wpAnyH_take (i := 1) (v := ?vzb1) rfl (by kernel_rfl) (by kernel_rfl) (by kernel_rfl) (fun _ _ _ h => h) (Or.inl ⟨by rfl, ?yzb1⟩) hHeld ?rzb1
            case yzb1 => (intro wS hSw; have q := hSw.1; clear hSw; go_simp; try (with_reducible rfl))
            try simp only [zzA, zzB, zzC, Act.put, zzD, zzE, zzF]
            refine wpAnyH_take (i := 2) (v := ?vzb2) rfl (by kernel_rfl) (by kernel_rfl) (by kernel_rfl) (fun _ _ _ h => h) (Or.inl ⟨by rfl, ?yzb2⟩) hHeld ?rzb2
            case yzb2 => (intro wS hSw; clear hSw; go_simp; try (with_reducible rfl))
            try simp only [zzA, zzB, zzC, Act.put, zzD, zzE, zzF]
            refine wpAnyH_take (i := 3) (v := ?vzb3) rfl (by kernel_rfl) (by kernel_rfl) (by kernel_rfl) (fun _ _ _ h => h) (Or.inl ⟨by rfl, ?yzb3⟩) hHeld ?rzb3
            case yzb3 => (intro wS hSw; clear hSw; go_simp; try (with_reducible rfl))
            try simp only [zzA, zzB, zzC, Act.put, zzD, zzE, zzF]
            refine wpAnyH_take (i := 4) (v := ?vzb4) rfl (by kernel_rfl) (by kernel_rfl) (by kernel_rfl) (fun _ _ _ h => h) (Or.inl ⟨by rfl, ?yzb4⟩) hHeld ?rzb4
            case yzb4 => (intro wS hSw; clear hSw; go_simp; try (with_reducible rfl))
            try simp only [zzA, zzB, zzC, Act.put, zzD, zzE, zzF]
            refine wpAnyH_take (i := 6) (v := ?vzb6) rfl (by kernel_rfl) (by kernel_rfl) (by kernel_rfl) (fun _ _ _ h => h) (Or.inl ⟨by rfl, ?yzb6⟩) hHeld ?rzb6
            case yzb6 => (intro wS hSw; clear hSw; go_simp; try (with_reducible rfl))
            try simp only [zzA, zzB, zzC, Act.put, zzD, zzE, zzF]
            refine wpAnyH_take (i := 7) (v := ?vzb7) rfl (by kernel_rfl) (by kernel_rfl) (by kernel_rfl) (fun _ _ _ h => h) (Or.inl ⟨by rfl, ?yzb7⟩) hHeld ?rzb7
            case yzb7 => (intro wS hSw; have q := hSw.1; clear hSw; go_simp; try (with_reducible rfl))
            try simp only [zzA, zzB, zzC, Act.put, zzD, zzE, zzF]
            refine wpAnyH_take (i := 8) (v := ?vzb8) rfl (by kernel_rfl) (by kernel_rfl) (by kernel_rfl) (fun _ _ _ h => h) (Or.inl ⟨by rfl, ?yzb8⟩) hHeld ?rzb8
            case yzb8 => (intro wS hSw; clear hSw; go_simp; try (with_reducible rfl))
            try simp only [zzA, zzB, zzC, Act.put, zzD, zzE, zzF]
            refine wpAnyH_take (i := 9) (v := ?vzb9) rfl (by kernel_rfl) (by kernel_rfl) (by kernel_rfl) (fun _ _ _ h => h) (Or.inl ⟨by rfl, ?yzb9⟩) hHeld ?rzb9
            case yzb9 => (intro wS hSw; clear hSw; go_simp; try (with_reducible rfl))
            try simp only [zzA, zzB, zzC, Act.put, zzD, zzE, zzF]
            refine wpAnyH_take (i := 10) (v := ?vzb10) rfl (by kernel_rfl) (by kernel_rfl) (by kernel_rfl) (fun _ _ _ h => h) (Or.inl ⟨by rfl, ?yzb10⟩) hHeld ?rzb10
            case yzb10 => (intro wS hSw; have q := hSw.2; clear hSw; go_simp; try (with_reducible rfl))
            try simp only [zzA, zzB, zzC, Act.put, zzD, zzE, zzF]
            refine wpAnyH_ready (rs := [5]) (by kernel_rfl) (by simp) (AllReadyH.cons rfl (fun K hK => ?_) AllReadyH.nil)
            have qc := SD.out.hb.cell (show i1 < S + 1 by omega)
            rw [FI1.out] at qc
            have qc2 : wr.cell? ⟨gb, i1, none⟩ = some (.int .i64 (u : Int)) := by rw [← qc]; rfl
            go_simp
            refine hK.out _ _ hHeld (fun hHeld => ?_)
            clear hK K qc qc2
            try simp only [zzA, zzB, zzC, Act.put, zzD, zzE, zzF]
            refine wpAnyH_take (i := 11) (v := ?vzb11) rfl (by kernel_rfl) (by kernel_rfl) (by kernel_rfl) (fun _ _ _ h => h) (Or.inl ⟨by rfl, ?yzb11⟩) hHeld ?rzb11
            case yzb11 => (intro wS hSw; clear hSw; go_simp; try (with_reducible rfl))
            try simp only [zzA, zzB, zzC, Act.put, zzD, zzE, zzF]
            refine wpAnyH_take (i := 12) (v := ?vzb12) rfl (by kernel_rfl) (by kernel_rfl) (by kernel_rfl) (fun _ _ _ h => h) (Or.inl ⟨by rfl, ?yzb12⟩) hHeld ?rzb12
            case yzb12 => (intro wS hSw; clear hSw; go_simp; try (with_reducible rfl))
            try simp only [zzA, zzB, zzC, Act.put, zzD, zzE, zzF]
            refine wpAnyH_ready (rs := [13]) (by kernel_rfl) (by simp) (AllReadyH.cons rfl (fun K hK => ?_) AllReadyH.nil)
            have qc := SD.out.hb.cell (show i1 < S + 1 by omega)
            have qf := SD.out.hb.free i1
            rw [FI1.out] at qc
            have qc2 : wr.cell? ⟨gb, i1, none⟩ = some (.int .i64 (u : Int)) := by rw [← qc]; rfl
            have qf2 : wr.frozen? ⟨gb, i1, none⟩ = false := by rw [← qf]; rfl
            have h3 := S3.out.s3
            have h4 : (wr.drew.setCell ⟨gb, i1, none⟩ (.int .i64 (x : Int))).cell? ⟨gb, i, none⟩ = some (.int .i64 (v : Int)) := by
              have h := (SD.out.hb.set i1 x).cell (show i < S + 1 by omega)
              rw [show upd (fb2 E i) i1 x i = v by unfold upd; rw [if_neg H12.out, FI.out]] at h
              exact h
            go_simp
            refine hK.out _ _ ⟨h3, h4⟩ (fun hHeld => ?_)
            clear hK K qc qf qc2 qf2 h3 h4
            try simp only [zzA, zzB, zzC, Act.put, zzD, zzE, zzF]
            refine wpAnyH_done (by kernel_rfl) ?_ _
            have S4 := Lib.hid S3.out
            clear hHeld S3 SD
            go_wp2_with fail
            exact ⟨⟨i1, by omega, by go_num, S4.out⟩, by simp [intOf]; omega⟩
          · obtain rfl : i = S := by omega
            have h3 : ∀ j, j < i + 1 → fb2 E i j = begE E j := fun j hj => by rw [fb2, if_pos (by omega)]
            have SB := Lib.hid (show SoS W g1 (g1 + 1) gs gb gp i Ae k ce Ax nx cx (begE E) (fun _ => 0) wr from ⟨SR.out.ks, SR.out.k1, SR.out.k2, SR.out.hb.congr h3, SR.out.hp, SR.out.below, SR.out.ns, SR.out.nb, SR.out.np, SR.out.n2, SR.out.ap⟩)
            have q3 := SB.out.s3
            have HCL := Lib.hid (clone_ints gb (i + 1) (i + 1) (begE E) (by omega) (by omega) wr SB.out.hb)
            clear SR h3
            go_wp2_with fail
            refine HCL.out.mono ?_
            rintro x w3 ⟨gc, capc, rfl, hcap, hcc, hgc, hb3⟩
            have SC := Lib.hid (SB.out.then hb3)
            have CC := Lib.hid hcc
            have HGC := Lib.hid (show gc ≠ gb ∧ gc ≠ gp ∧ gc ≠ gs ∧ W.heap.size ≤ gc from by
              have t1 := SB.out.hb.lt
              have t2 := SB.out.hp.lt
              have t3 := (Array.getElem?_eq_some_iff.1 SB.out.ks).1
              have t4 := SB.out.below.size
              exact ⟨by omega, by omega, by omega, by omega⟩)
            have HG12 := Lib.hid (show gc ≠ g1 ∧ gc ≠ g1 + 1 from by
              have t1 := (Array.getElem?_eq_some_iff.1 SB.out.k1).1
              have t2 := (Array.getElem?_eq_some_iff.1 SB.out.k2).1
              exact ⟨by omega, by omega⟩)
            have j1 := SC.out.a1
            clear q3 hb3 hcc hgc SB HCL
            go_wp2_with fail
            clear j1
            go_loopw [62] (fun vi wr => ∃ (j : Nat) (fp : Nat → Nat), j ≤ k ∧ vi = .int .i64 (j : Int) ∧ Hid (SoS W g1 (g1 + 1) gs gb gp i Ae k ce Ax nx cx (begE E) fp wr) ∧ Hid (Hc wr gc (i + 1) (fb3 E j)) ∧ Hid (Placed E fp j)) (fun vi _ => k - (intOf vi).toNat)
            case atStart =>
              refine ⟨0, fun _ => 0, Nat.zero_le _, rfl, SC.out, ?_, placed_zero E _⟩
              have h0 : fb3 E 0 = begE E := by funext j; rw [fb3, cnte_zero, Nat.add_zero]
              rw [h0]
              exact CC.out
            case round =>
              obtain ⟨j, fp, hj, rfl, SR, CR, PL⟩ := hrel
              clear SC CC
              by_cases hlt3 : j < k
              · have hkl : j < E.length := by rw [HNE.out]; exact hlt3
                obtain ⟨ad, hAe, hcs⟩ := (HR.out.below SR.out.below) j hkl
                subst hAe
                obtain ⟨x1, x2, _, _, _⟩ := HE.out _ (List.getElem_mem hkl)
                obtain ⟨s, hs⟩ : ∃ s : Nat, E[j].fr = (s : Int) := ⟨E[j].fr.toNat, by omega⟩
                have hsS : s < i := by omega
                have PS := Lib.hid (placed_step PL.out hkl s hs)
                have CS := Lib.hid (fun t => cnte_succ E t j hkl)
                have hpos : begE E s + cntE E s j < k := by
                  have h1 := cnte_lt E s j hkl hs
                  have h2 := beg_le E (s + 1)
                  rw [begE] at h2
                  rw [HNE.out] at h2
                  omega
                generalize E[j] = e at *
                rw [hs] at CS
                have hcs' : ∀ t u, [Value.int .i64 (s : Int), .int .i64 e.to, dv e.set.w0, dv e.set.w1, dv e.set.w2, dv e.set.w3, .bool e.free][t]? = some u → wr.cell? ((ad.add (j * 7)).add t) = some u := fun t u hu => hcs t u (by unfold cellsE; rw [hs]; exact hu)
                have HCS := Lib.hid hcs'
                have hki : (j : Int) < (k : Int) := by omega
                clear hcs hcs' x1 x2 hs hkl PL
                go_upto_region 16 with (refine wpList_load_part 53 7 _ rfl rfl (ad.add (j * 7)) rfl [.int .i64 (s : Int), .int .i64 e.to, .int .u64 (e.set.w0.toNat : Int), .int .u64 (e.set.w1.toNat : Int), .int .u64 (e.set.w2.toNat : Int), .int .u64 (e.set.w3.toNat : Int), .bool e.free] (agg_edge _) (sz_edge _) rfl HCS.out ?_)
                have bz := bl_alloc (Below.refl wr.heap.size wr) (.cells #[.int .i64 (s : Int), .int .i64 e.to, .int .u64 (e.set.w0.toNat : Int), .int .u64 (e.set.w1.toNat : Int), .int .u64 (e.set.w2.toNat : Int), .int .u64 (e.set.w3.toNat : Int), .bool e.free] 53)
                have kz := heap_alloc_new wr (.cells #[.int .i64 (s : Int), .int .i64 e.to, .int .u64 (e.set.w0.toNat : Int), .int .u64 (e.set.w1.toNat : Int), .int .u64 (e.set.w2.toNat : Int), .int .u64 (e.set.w3.toNat : Int), .bool e.free] 53)
                have S2 := Lib.hid (SR.out.then bz)
                have C2 := Lib.hid (CR.out.at (bz.block gc CR.out.lt))
                have HGE := Lib.hid (show wr.heap.size ≠ gp ∧ wr.heap.size ≠ gc from ⟨by have := SR.out.hp.lt; omega, by have := CR.out.lt; omega⟩)
                clear bz SR CR HCS
                generalize wr.alloc (.cells #[.int .i64 (s : Int), .int .i64 e.to, .int .u64 (e.set.w0.toNat : Int), .int .u64 (e.set.w1.toNat : Int), .int .u64 (e.set.w2.toNat : Int), .int .u64 (e.set.w3.toNat : Int), .bool e.free] 53) = w2 at *
                generalize wr.heap.size = ge at *
                obtain ⟨v, hv⟩ : ∃ x, begE E s + cntE E s j = x := ⟨_, rfl⟩
                obtain ⟨v1, hv1⟩ : ∃ x, v + 1 = x := ⟨_, rfl⟩
                have e1 : (v : Int) + 1 = (v1 : Int) := by omega
                rw [hv] at PS hpos
                have hvi : (v : Int) < (k : Int) := by omega
                have hsi : (s : Int) < (i : Int) + 1 := by omega
                have KZ := Lib.hid kz
                have FV := Lib.hid (show fb3 E j s = v from hv)
                clear kz
                refine wp_region_held_drew (S := fun wS => wS.heap[gs]? = w2.heap[gs]? ∧ wS.heap[ge]? = w2.heap[ge]? ∧ wS.heap[gc]? = w2.heap[gc]?) (by kernel_rfl) ⟨rfl, rfl, rfl⟩ (fun hHeld => ?_)
                try simp only [zzA, zzB, zzC, Act.put, zzD, zzE, zzF]
                refine wpAnyH_take (i := 0) (v := ?vzc0) rfl (by kernel_rfl) (by kernel_rfl) (by kernel_rfl) (fun _ _ _ h => h) (Or.inl ⟨by rfl, ?yzc0⟩) hHeld ?rzc0
                case yzc0 => (intro wS hSw; clear hSw; go_simp; try (with_reducible rfl))
                try simp only [zzA, zzB, zzC, Act.put, zzD, zzE, zzF]
                refine wpAnyH_take (i := 1) (v := ?vzc1) rfl (by kernel_rfl) (by kernel_rfl) (by kernel_rfl) (fun _ _ _ h => h) (Or.inl ⟨by rfl, ?yzc1⟩) hHeld ?rzc1
                case yzc1 => (intro wS hSw; have q := cell_of_row wS gs 4 _ _ _ (hSw.1.trans S2.out.ks); clear hSw; go_simp; try (with_reducible rfl))
                try simp only [zzA, zzB, zzC, Act.put, zzD, zzE, zzF]
                refine wpAnyH_take (i := 2) (v := ?vzc2) rfl (by kernel_rfl) (by kernel_rfl) (by kernel_rfl) (fun _ _ _ h => h) (Or.inl ⟨by rfl, ?yzc2⟩) hHeld ?rzc2
                case yzc2 => (intro wS hSw; clear hSw; go_simp; try (with_reducible rfl))
                try simp only [zzA, zzB, zzC, Act.put, zzD, zzE, zzF]
                refine wpAnyH_take (i := 3) (v := ?vzc3) rfl (by kernel_rfl) (by kernel_rfl) (by kernel_rfl) (fun _ _ _ h => h) (Or.inl ⟨by rfl, ?yzc3⟩) hHeld ?rzc3
                case yzc3 => (intro wS hSw; clear hSw; go_simp; try (with_reducible rfl))
                try simp only [zzA, zzB, zzC, Act.put, zzD, zzE, zzF]
                refine wpAnyH_take (i := 4) (v := ?vzc4) rfl (by kernel_rfl) (by kernel_rfl) (by kernel_rfl) (fun _ _ _ h => h) (Or.inl ⟨by rfl, ?yzc4⟩) hHeld ?rzc4
                case yzc4 => (intro wS hSw; have q := cell_of_row wS ge 0 _ _ _ (hSw.2.1.trans KZ.out); clear hSw; go_simp; try (with_reducible rfl))
                try simp only [zzA, zzB, zzC, Act.put, zzD, zzE, zzF]
                refine wpAnyH_take (i := 5) (v := ?vzc5) rfl (by kernel_rfl) (by kernel_rfl) (by kernel_rfl) (fun _ _ _ h => h) (Or.inl ⟨by rfl, ?yzc5⟩) hHeld ?rzc5
                case yzc5 => (intro wS hSw; clear hSw; go_simp; try (with_reducible rfl))
                try simp only [zzA, zzB, zzC, Act.put, zzD, zzE, zzF]
                refine wpAnyH_take (i := 6) (v := ?vzc6) rfl (by kernel_rfl) (by kernel_rfl) (by kernel_rfl) (fun _ _ _ h => h) (Or.inl ⟨by rfl, ?yzc6⟩) hHeld ?rzc6
                case yzc6 => (intro wS hSw; have q := (C2.out.at hSw.2.2).cell (show s < i + 1 by omega); rw [FV.out] at q; clear hSw; go_simp; try (with_reducible rfl))
                try simp only [zzA, zzB, zzC, Act.put, zzD, zzE, zzF]
                refine wpAnyH_take (i := 7) (v := ?vzc7) rfl (by kernel_rfl) (by kernel_rfl) (by kernel_rfl) (fun _ _ _ h => h) (Or.inl ⟨by rfl, ?yzc7⟩) hHeld ?rzc7
                case yzc7 => (intro wS hSw; clear hSw; go_simp; try (with_reducible rfl))
                try simp only [zzA, zzB, zzC, Act.put, zzD, zzE, zzF]
                refine wpAnyH_take (i := 8) (v := ?vzc8) rfl (by kernel_rfl) (by kernel_rfl) (by kernel_rfl) (fun _ _ _ h => h) (Or.inl ⟨by rfl, ?yzc8⟩) hHeld ?rzc8
                case yzc8 => (intro wS hSw; clear hSw; go_simp; try (with_reducible rfl))
                try simp only [zzA, zzB, zzC, Act.put, zzD, zzE, zzF]
                refine wpAnyH_ready (rs := [9]) (by kernel_rfl) (by simp) (AllReadyH.cons rfl (fun K hK => ?_) AllReadyH.nil)
                have qc := S2.out.hp.cell (show v < k by omega)
                have qf := S2.out.hp.free v
                have qc2 : w2.drew.cell? ⟨gp, v, none⟩ = some (.int .i64 ((fp v : Nat) : Int)) := by rw [← qc]; rfl
                have qf2 : w2.drew.frozen? ⟨gp, v, none⟩ = false := by rw [← qf]; rfl
                obtain ⟨_, _, _, t1, _, _⟩ := S2.out.typ
                have h1 : (w2.drew.setCell ⟨gp, v, none⟩ (.int .i64 (j : Int))).heap[gs]? = w2.heap[gs]? := Below.heap_setCell _ _ _ _ (fun e => t1 e.symm)
                have h2 : (w2.drew.setCell ⟨gp, v, none⟩ (.int .i64 (j : Int))).heap[ge]? = w2.heap[ge]? := Below.heap_setCell _ _ _ _ HGE.out.1
                have h3 : (w2.drew.setCell ⟨gp, v, none⟩ (.int .i64 (j : Int))).heap[gc]? = w2.heap[gc]? := Below.heap_setCell _ _ _ _ HGC.out.2.1
                go_simp
                refine hK.out _ _ ⟨h1, h2, h3⟩ (fun hHeld => ?_)
                clear hK K qc qf qc2 qf2 h1 h2 h3 t1
                try simp only [zzA, zzB, zzC, Act.put, zzD, zzE, zzF]
                refine wpAnyH_done (by kernel_rfl) ?_ _
                have hgr := grown_set w2.drew gp v (.int .i64 (j : Int))
                have S4 := Lib.hid (show SoS W g1 (g1 + 1) gs gb gp i (some ad) k ce Ax nx cx (begE E) (fun t => if t = v then j else fp t) (w2.drew.setCell ⟨gp, v, none⟩ (.int .i64 (j : Int))) from (S2.out.then (bl_drewN (Below.refl _ w2) 1)).setP (fp' := fun t => if t = v then j else fp t) v j (fun t ht => rfl))
                have C4 := Lib.hid (C2.out.at (show (w2.drew.setCell ⟨gp, v, none⟩ (.int .i64 (j : Int))).heap[gc]? = w2.heap[gc]? from Below.heap_setCell _ _ _ _ HGC.out.2.1))
                have K4 := Lib.hid ((Below.heap_setCell w2.drew ⟨gp, v, none⟩ (.int .i64 (j : Int)) ge HGE.out.1).trans KZ.out)
                clear hgr hHeld S2 C2 KZ
                go_upto_region 17 with fail
                show Code.wp _ _ _ _ (w2.drew.setCell ⟨gp, v, none⟩ (.int .i64 (j : Int)))
                generalize w2.drew.setCell ⟨gp, v, none⟩ (.int .i64 (j : Int)) = w4 at *
                have q0 := cell_of_row w4 ge 0 _ _ _ K4.out
                have qb := C4.out.cell (show s < i + 1 by omega)
                rw [FV.out] at qb
                have qf := C4.out.free s
                have S5 := Lib.hid (S4.out)
                have C5 := Lib.hid (C4.out.set s v1 (by omega))
                have hgr5 := grown_set w4 gc s (.int .i64 (v1 : Int))
                have hgce : gc ≠ gs ∧ gc ≠ gb ∧ gc ≠ gp := ⟨HGC.out.2.2.1, HGC.out.1, HGC.out.2.1⟩
                have S6 := Lib.hid (S5.out.other gc s v1 HGC.out HG12.out)
                have hv8 : v ≤ 8192 := by omega
                clear S4 C4 S5 hgr5 hgce K4
                go_wp2_with fail
                refine ⟨⟨j + 1, _, by omega, by go_num, S6.out, ?_, PS.out⟩, by simp [intOf]; omega⟩
                obtain ⟨cs, h1, h2, h3⟩ := C5.out
                refine ⟨cs, h1, h2, fun t ht => ?_⟩
                rw [h3 t ht]
                congr 1
                congr 1
                unfold upd fb3
                rw [CS.out t]
                by_cases hts : t = s
                · subst hts
                  rw [if_pos rfl, if_pos rfl, ← hv1, ← hv, Nat.add_assoc]
                · rw [if_neg hts, if_neg (fun h => hts (by omega)), Nat.add_zero]
              · obtain rfl : j = k := by omega
                have hld : ∀ t u, [Value.int .i64 (i : Int), .slice Ae j ce, .slice Ax nx cx, .slice (some ⟨gb, 0, none⟩) (i + 1) (i + 1), .slice (some ⟨gp, 0, none⟩) j j][t]? = some u → wr.cell? ((⟨gs, 0, none⟩ : Addr).add t) = some u := fun t u hu => by
                  rw [addr_mk, Nat.zero_add, cell_of_row wr gs t _ _ _ SR.out.ks]
                  simpa using hu
                have HLD := Lib.hid hld
                have x3 := setRow_heap wr (g1 + 1) _ #[.int .i64 (i : Int), .slice Ae j ce, .slice Ax nx cx, .slice (some ⟨gb, 0, none⟩) (i + 1) (i + 1), .slice (some ⟨gp, 0, none⟩) j j] _ _ SR.out.k2
                have hk2 := SR.out.k2
                clear hld
                go_wp2_with (first
                  | (refine wpList_load_part 114 5 _ rfl rfl ⟨gs, 0, none⟩ rfl [.int .i64 (i : Int), .slice Ae j ce, .slice Ax nx cx, .slice (some ⟨gb, 0, none⟩) (i + 1) (i + 1), .slice (some ⟨gp, 0, none⟩) j j] (agg_sorted _) (sz_sorted _) rfl HLD.out ?_)
                  | (refine wpList_store_row rfl 114 _ _ rfl (g1 + 1) _ rfl rfl 114 _ hk2 (by rw [size_sorted]; rfl) rfl (by simp [Value.oneCell']) ?_))
                obtain ⟨_, _, t1, _, _, t2⟩ := SR.out.typ
                have hb7 := bl_setRow SR.out.below SR.out.n2 #[.int .i64 (i : Int), .slice Ae j ce, .slice Ax nx cx, .slice (some ⟨gb, 0, none⟩) (i + 1) (i + 1), .slice (some ⟨gp, 0, none⟩) j j]
                refine bodyPost_ret (v := .agg #[.int .i64 (i : Int), .slice Ae j ce, .slice Ax nx cx, .slice (some ⟨gb, 0, none⟩) (i + 1) (i + 1), .slice (some ⟨gp, 0, none⟩) j j]) (results_cell_row rfl _ _ (g1 + 1) 114 _ (0, 0) _ rfl x3 Tryz.underlying114 rfl (by rw [size_sorted]; rfl)) rfl (post_is HQ ?_)
                exact ⟨gb, gp, fp, rfl, (setRow_other _ _ _ _ t1).trans SR.out.hb, (setRow_other _ _ _ _ t2).trans SR.out.hp, PL.out, SR.out.nb, SR.out.np, SR.out.ap, hb7⟩

end Go.Proofs.YtcgfogdfcdndgaaGreatDoor
