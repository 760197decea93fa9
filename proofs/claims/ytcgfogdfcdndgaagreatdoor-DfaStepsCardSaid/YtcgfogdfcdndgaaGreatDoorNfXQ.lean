/- withPattern, as it is called. -/
import Derived.Test.YtcgfogdfcdndgaaGreatDoorNfOQ
import Derived.Test.YtcgfogdfcdndgaaGreatDoorRgNQ
set_option linter.unusedVariables false
set_option linter.unusedSimpArgs false
namespace Go.Proofs.YtcgfogdfcdndgaaGreatDoor
open Go.RowKit
attribute [local go_sem] Oper.semAt_some

theorem agg_rn' (w : World) : (isAgg 147).run Tryz.prog w = .ok true w := by kernel_rfl
theorem sz_rn' (w : World) : (sizeOf 147).run Tryz.prog w = .ok 7 w := by kernel_rfl
theorem size_net : (Tryz.prog.info? 25).map (·.size) = some 3 := by kernel_rfl
def zeroEd : Value := .agg #[.int .i64 0, .int .i64 0, .int .u64 0, .int .u64 0, .int .u64 0, .int .u64 0, .bool false]
theorem info_edge : (Tryz.prog.info? 53).map (fun i => (i.zero, i.size, i.bytes)) = some (some zeroEd, 7, 56) := by kernel_rfl
def GotWp (W0 W : World) (v0 vx : Value) (S : Nat) (E : List Ed) (X : List Nat) (L : List RN) (e : Ending) (W' : World) : Prop :=
  ∃ A n c A2 n2 c2, e = .returned (.agg #[.int .i64 ((S + 2 * L.length : Nat) : Int), .slice A n c, .slice A2 n2 c2]) ∧ OwnE W' W0.heap.size (.slice A n c) (E ++ nodesE S L 0 ++ [freeE 0 ((S + 2 * (L.length - 1) : Nat) : Int)]) ∧ OwnI W' W0.heap.size (.slice A2 n2 c2) (X ++ [S + 2 * (L.length - 1) + 1])
    ∧ (∀ i, (Value.slice A n c).ownBlock = some i → v0.ownBlock = some i ∨ W.heap.size ≤ i) ∧ (∀ i, (Value.slice A2 n2 c2).ownBlock = some i → vx.ownBlock = some i ∨ W.heap.size ≤ i)
    ∧ W.heap.size ≤ W'.heap.size ∧ (∀ i, i < W.heap.size → v0.ownBlock ≠ some i → vx.ownBlock ≠ some i → W'.heap[i]? = W.heap[i]?) ∧ Below W0.heap.size W0 W'
set_option maxRecDepth 100000 in
set_option maxHeartbeats 16000000 in
theorem with_any (S : Nat) (E : List Ed) (X : List Nat) (L : List RN) (Ae Ax Al : Option Addr) (ne ce nx cx n c : Nat) (hn : L.length = n) (h1 : 1 ≤ n) (hn2 : n ≤ 256) (hS : S ≤ 3000) (hE : E.length + 4 * n + 1 ≤ 100000) (hX : X.length ≤ 1000)
    (hL : ∀ i (h : i < L.length), 0 ≤ L[i].a ∧ L[i].a ≤ 1000 ∧ 0 ≤ L[i].b ∧ L[i].b ≤ 1000) (W0 W : World) (hW : Below W0.heap.size W0 W) (hr : RdR W0 Al L) (he : OwnE W W0.heap.size (.slice Ae ne ce) E) (hx : OwnI W W0.heap.size (.slice Ax nx cx) X) :
    Calls Tryz.prog 79 #[.agg #[.int .i64 (S : Int), .slice Ae ne ce, .slice Ax nx cx], .slice Al n c] W (GotWp W0 W (.slice Ae ne ce) (.slice Ax nx cx) S E X L) := by
  generalize hQ : GotWp W0 W (.slice Ae ne ce) (.slice Ax nx cx) S E X L = Q
  have HQ := Lib.hid hQ
  have ki := heap_alloc_new W (.cells #[.int .i64 (S : Int), .slice Ae ne ce, .slice Ax nx cx] 25)
  have kr := heap_alloc_new (W.alloc (.cells #[.int .i64 (S : Int), .slice Ae ne ce, .slice Ax nx cx] 25)) (.cells #[.int .i64 0, .slice none 0 0, .slice none 0 0] 25)
  rw [World.size_alloc] at kr
  have ki2 := (Below.heap_alloc (W.alloc (.cells #[.int .i64 (S : Int), .slice Ae ne ce, .slice Ax nx cx] 25)) (.cells #[.int .i64 0, .slice none 0 0, .slice none 0 0] 25) W.heap.size (by simp)).trans ki
  have b2 := bl_alloc (bl_alloc (Below.refl W.heap.size W) (.cells #[.int .i64 (S : Int), .slice Ae ne ce, .slice Ax nx cx] 25)) (.cells #[.int .i64 0, .slice none 0 0, .slice none 0 0] 25)
  have P0 := Lib.hid (show Pat W0 W (.slice Ae ne ce) S X (.slice Ax nx cx) (.slice Ae ne ce) E ((W.alloc (.cells #[.int .i64 (S : Int), .slice Ae ne ce, .slice Ax nx cx] 25)).alloc (.cells #[.int .i64 0, .slice none 0 0, .slice none 0 0] 25)) from
    ⟨ki2, kr, World.ownsRow.kept he (grown_of_below b2 none) (by cases (Value.slice Ae ne ce).ownBlock <;> simp), hx.below b2, fun i e => (World.ownsRow.lt hx i e).2, fun i e => Or.inl e, fun i e => (World.ownsRow.lt he i e).2, fun i hi _ => b2.block i hi, bl_trans hW b2, hW.size⟩)
  have q0 := cell_of_row _ W.heap.size 0 _ _ _ ki2
  have HR := Lib.hid hr
  have HL := Lib.hid hL
  have HN := Lib.hid hn
  have HE := Lib.hid hE
  have HX := Lib.hid hX
  have OX := Lib.hid hx
  have OE := Lib.hid he
  clear hQ ki kr ki2 b2 hr hL hn hE hX hx he hW
  go_enter Tryz.func79, Tryz.ntmps79
  go_upto_region 1 with fail
  generalize (W.alloc (.cells #[.int .i64 (S : Int), .slice Ae ne ce, .slice Ax nx cx] 25)).alloc (.cells #[.int .i64 0, .slice none 0 0, .slice none 0 0] 25) = w1 at *
  go_wp2_with fail
  clear q0
  go_loopw [13] (fun vi wr => ∃ (k : Nat) (A : Option Addr) (m d : Nat), k ≤ n ∧ vi = .int .i64 (k : Int) ∧ Hid (Pat W0 W (.slice Ae ne ce) S X (.slice Ax nx cx) (.slice A m d) (E ++ nodesE S (L.take k) 0) wr)) (fun vi _ => n - (intOf vi).toNat)
  case atStart => exact ⟨0, _, _, _, Nat.zero_le _, rfl, by rw [show E ++ nodesE S (L.take 0) 0 = E from by simp [nodesE]]; exact P0⟩
  case round =>
    obtain ⟨k, A, m, d, hk, rfl, PK⟩ := hrel
    clear P0
    by_cases hlt : k < n
    · have hkl : k < L.length := by rw [HN.out]; exact hlt
      obtain ⟨ad, hA, hcs⟩ := (HR.out.below PK.out.low) k hkl
      subst hA
      have HNX := Lib.hid (nodes_next S L k 0 hkl)
      have hlim := HL.out k hkl
      have HNL := Lib.hid (show (nodesE S (L.take k) 0).length ≤ 4 * k from by have := nodes_len S (L.take k) 0; rw [List.length_take] at this; omega)
      generalize hx : L[k] = x at *
      clear hx
      obtain ⟨xk, xa, xb, z0, z1, z2, z3⟩ := x
      have HCS := Lib.hid (show ∀ j u, [.int .i64 xk, .int .u64 (z0.toNat : Int), .int .u64 (z1.toNat : Int), .int .u64 (z2.toNat : Int), .int .u64 (z3.toNat : Int), .int .i64 xa, .int .i64 xb][j]? = some u → wr.cell? ((ad.add (k * 7)).add j) = some u from hcs)
      clear hcs
      obtain ⟨y1, y2, y3, y4⟩ := hlim
      go_upto_region 5 with (refine wpList_load_part 147 7 _ rfl rfl (ad.add (k * 7)) rfl [.int .i64 xk, .int .u64 (z0.toNat : Int), .int .u64 (z1.toNat : Int), .int .u64 (z2.toNat : Int), .int .u64 (z3.toNat : Int), .int .i64 xa, .int .i64 xb] (agg_rn' _) (sz_rn' _) rfl HCS.out ?_)
      have HEL := Lib.hid (show (E ++ nodesE (S : Int) (L.take k) 0).length ≤ 200000 from by have := HNL.out; have := HE.out; rw [List.length_append]; omega)
      obtain ⟨EK, hEK⟩ : ∃ l, E ++ nodesE (S : Int) (L.take k) 0 = l := ⟨_, rfl⟩
      rw [hEK] at PK HEL
      have HEK := Lib.hid hEK
      clear hEK HNL
      have P1 := PK.out.then (bl_alloc (Below.refl _ wr) (.cells #[.int .i64 xk, .int .u64 (z0.toNat : Int), .int .u64 (z1.toNat : Int), .int .u64 (z2.toNat : Int), .int .u64 (z3.toNat : Int), .int .i64 xa, .int .i64 xb] 147))
      have kn := heap_alloc_new wr (.cells #[.int .i64 xk, .int .u64 (z0.toNat : Int), .int .u64 (z1.toNat : Int), .int .u64 (z2.toNat : Int), .int .u64 (z3.toNat : Int), .int .i64 xa, .int .i64 xb] 147)
      have VG := Lib.hid (show ∀ i, (Value.slice A m d).ownBlock = some i → i ≠ wr.heap.size from fun i e h => absurd (World.ownsRow.lt PK.out.ed i e).2 (by omega))
      clear PK HCS
      generalize wr.alloc (.cells #[.int .i64 xk, .int .u64 (z0.toNat : Int), .int .u64 (z1.toNat : Int), .int .u64 (z2.toNat : Int), .int .u64 (z3.toNat : Int), .int .i64 xa, .int .i64 xb] 147) = w2 at *
      generalize wr.heap.size = gn at *
      have hPD : Pat W0 W (.slice Ae ne ce) S X (.slice Ax nx cx) (.slice A m d) EK w2.drew := P1.then (bl_drewN (Below.refl _ w2) 1)
      have knd : w2.drew.heap[gn]? = some (.cells #[.int .i64 xk, .int .u64 (z0.toNat : Int), .int .u64 (z1.toNat : Int), .int .u64 (z2.toNat : Int), .int .u64 (z3.toNat : Int), .int .i64 xa, .int .i64 xb] 147 (0, 0)) := kn
      clear P1 kn
      obtain ⟨i0, hi, hz0, hz1, hz2⟩ := info_parts info_edge
      have HED := Lib.hid (show ∀ w, Calls Tryz.prog 97 #[.agg #[.int .i64 xk, .int .u64 (z0.toNat : Int), .int .u64 (z1.toNat : Int), .int .u64 (z2.toNat : Int), .int .u64 (z3.toNat : Int), .int .i64 xa, .int .i64 xb], .agg #[.int .i64 (partE (S : Int) (k : Int)).i, .int .i64 (partE (S : Int) (k : Int)).o], .agg #[.int .i64 (partE (S : Int) xa).i, .int .i64 (partE (S : Int) xa).o], .agg #[.int .i64 (partE (S : Int) xb).i, .int .i64 (partE (S : Int) xb).o]] w (GotEs w (edgesE ⟨xk, xa, xb, z0, z1, z2, z3⟩ (partE (S : Int) (k : Int)) (partE (S : Int) xa) (partE (S : Int) xb))) from fun w => edges_any ⟨xk, xa, xb, z0, z1, z2, z3⟩ _ _ _ w)
      have HLX := Lib.hid (edges_len ⟨xk, xa, xb, z0, z1, z2, z3⟩ (partE (S : Int) (k : Int)) (partE (S : Int) xa) (partE (S : Int) xb))
      rw [show 0 + k = k by omega] at HNX
      dsimp only at HNX
      generalize edgesE ⟨xk, xa, xb, z0, z1, z2, z3⟩ (partE (S : Int) (k : Int)) (partE (S : Int) xa) (partE (S : Int) xb) = ex at *
      refine wp_region_held_drew (S := fun W' => W'.heap[gn]? = some (.cells #[.int .i64 xk, .int .u64 (z0.toNat : Int), .int .u64 (z1.toNat : Int), .int .u64 (z2.toNat : Int), .int .u64 (z3.toNat : Int), .int .i64 xa, .int .i64 xb] 147 (0, 0))) (by kernel_rfl) knd (fun hHeld => ?_)
      clear knd
      have PD := Lib.hid hPD
      clear hPD
      generalize hwd : w2.drew = wd at *
      clear hwd
      try simp only [zzA, zzB, zzC, Act.put, zzD, zzE, zzF]
      refine wpAnyH_take (i := 0) (v := ?vzp0) rfl (by kernel_rfl) (by kernel_rfl) (by kernel_rfl) (fun _ _ _ h => h) (Or.inl ⟨by rfl, ?yzp0⟩) hHeld ?rzp0
      case yzp0 => (intro wS hSw; clear hSw; go_simp; try (with_reducible rfl))
      try simp only [zzA, zzB, zzC, Act.put, zzD, zzE, zzF]
      refine wpAnyH_take (i := 2) (v := .agg #[.int .i64 xk, .int .u64 (z0.toNat : Int), .int .u64 (z1.toNat : Int), .int .u64 (z2.toNat : Int), .int .u64 (z3.toNat : Int), .int .i64 xa, .int .i64 xb]) rfl (by kernel_rfl) (by kernel_rfl) (by kernel_rfl) (fun _ _ _ h => h) (yields_part 147 7 (by rfl) (.tmp 7) rfl ⟨gn, 0, none⟩ rfl [.int .i64 xk, .int .u64 (z0.toNat : Int), .int .u64 (z1.toNat : Int), .int .u64 (z2.toNat : Int), .int .u64 (z3.toNat : Int), .int .i64 xa, .int .i64 xb] agg_rn' sz_rn' rfl (fun W1 hW j u hu => by rw [addr_mk, Nat.zero_add, cell_of_row W1 gn j _ _ _ hW]; simpa using hu)) hHeld ?_
      try simp only [zzA, zzB, zzC, Act.put, zzD, zzE, zzF]
      refine wpAnyH_take (i := 3) (v := ?vzp3) rfl (by kernel_rfl) (by kernel_rfl) (by kernel_rfl) (fun _ _ _ h => h) (Or.inl ⟨by rfl, ?yzp3⟩) hHeld ?rzp3
      case yzp3 => (intro wS hSw; clear hSw; go_simp; try (with_reducible rfl))
      try simp only [zzA, zzB, zzC, Act.put, zzD, zzE, zzF]
      refine wpAnyH_take (i := 4) (v := ?vzp4) rfl (by kernel_rfl) (by kernel_rfl) (by kernel_rfl) (fun _ _ _ h => h) (Or.inl ⟨by rfl, ?yzp4⟩) hHeld ?rzp4
      case yzp4 => (intro wS hSw; clear hSw; go_simp; try (with_reducible rfl))
      try simp only [zzA, zzB, zzC, Act.put, zzD, zzE, zzF]
      refine wpAnyH_take (i := 6) (v := ?vzp6) rfl (by kernel_rfl) (by kernel_rfl) (by kernel_rfl) (fun _ _ _ h => h) (Or.inl ⟨by rfl, ?yzp6⟩) hHeld ?rzp6
      case yzp6 => (intro wS hSw; clear hSw; go_simp; try (with_reducible rfl))
      try simp only [zzA, zzB, zzC, Act.put, zzD, zzE, zzF]
      refine wpAnyH_take (i := 7) (v := ?vzp7) rfl (by kernel_rfl) (by kernel_rfl) (by kernel_rfl) (fun _ _ _ h => h) (Or.inl ⟨by rfl, ?yzp7⟩) hHeld ?rzp7
      case yzp7 => (intro wS hSw; clear hSw; go_simp; try (with_reducible rfl))
      try simp only [zzA, zzB, zzC, Act.put, zzD, zzE, zzF]
      refine wpAnyH_take (i := 8) (v := ?vzp8) rfl (by kernel_rfl) (by kernel_rfl) (by kernel_rfl) (fun _ _ _ h => h) (Or.inl ⟨by rfl, ?yzp8⟩) hHeld ?rzp8
      case yzp8 => (intro wS hSw; have q1 := cell_of_row wS gn 5 _ _ _ hSw; clear hSw; go_simp; try (with_reducible rfl))
      try simp only [zzA, zzB, zzC, Act.put, zzD, zzE, zzF]
      refine wpAnyH_take (i := 10) (v := ?vzp10) rfl (by kernel_rfl) (by kernel_rfl) (by kernel_rfl) (fun _ _ _ h => h) (Or.inl ⟨by rfl, ?yzp10⟩) hHeld ?rzp10
      case yzp10 => (intro wS hSw; clear hSw; go_simp; try (with_reducible rfl))
      try simp only [zzA, zzB, zzC, Act.put, zzD, zzE, zzF]
      refine wpAnyH_take (i := 11) (v := ?vzp11) rfl (by kernel_rfl) (by kernel_rfl) (by kernel_rfl) (fun _ _ _ h => h) (Or.inl ⟨by rfl, ?yzp11⟩) hHeld ?rzp11
      case yzp11 => (intro wS hSw; clear hSw; go_simp; try (with_reducible rfl))
      try simp only [zzA, zzB, zzC, Act.put, zzD, zzE, zzF]
      refine wpAnyH_take (i := 12) (v := ?vzp12) rfl (by kernel_rfl) (by kernel_rfl) (by kernel_rfl) (fun _ _ _ h => h) (Or.inl ⟨by rfl, ?yzp12⟩) hHeld ?rzp12
      case yzp12 => (intro wS hSw; have q1 := cell_of_row wS gn 6 _ _ _ hSw; clear hSw; go_simp; try (with_reducible rfl))
      try simp only [zzA, zzB, zzC, Act.put, zzD, zzE, zzF]
      refine wpAnyH_ready (rs := [1, 5]) (by kernel_rfl) (by simp) (AllReadyH.cons rfl (fun K hK => ?_) (AllReadyH.cons rfl (fun K hK => ?_) AllReadyH.nil))
      · skip
        have qc := cell_of_row wd W.heap.size 1 _ _ _ PD.out.net
        go_simp
        refine hK.out _ _ hHeld (fun hHeld => ?_)
        clear hK K qc
        try simp only [zzA, zzB, zzC, Act.put, zzD, zzE, zzF]
        refine wpAnyH_ready (rs := [5]) (by kernel_rfl) (by simp) (AllReadyH.cons rfl (fun K hK => ?_) AllReadyH.nil)
        go_simp
        go_at_call 98
        refine (part_any (S : Int) (k : Int) (by omega) (by omega) _).mono ?_
        rintro e v1 ⟨rfl, hb1⟩
        have hS1 := (hb1.block gn (Array.getElem?_eq_some_iff.1 hHeld).1).trans hHeld
        have P1 := Lib.hid (PD.out.then hb1)
        clear hHeld hb1 PD
        go_wp2_with fail
        refine hK.out _ _ hS1 (fun hHeld => ?_)
        clear hK K hS1
        try simp only [zzA, zzB, zzC, Act.put, zzD, zzE, zzF]
        refine wpAnyH_ready (rs := [9]) (by kernel_rfl) (by simp) (AllReadyH.cons rfl (fun K hK => ?_) AllReadyH.nil)
        go_simp
        go_at_call 98
        refine (part_any (S : Int) xa (by omega) (by omega) _).mono ?_
        rintro e v2 ⟨rfl, hb1⟩
        have hS1 := (hb1.block gn (Array.getElem?_eq_some_iff.1 hHeld).1).trans hHeld
        have P2 := Lib.hid (P1.out.then hb1)
        clear hHeld hb1 P1
        go_wp2_with fail
        refine hK.out _ _ hS1 (fun hHeld => ?_)
        clear hK K hS1
        try simp only [zzA, zzB, zzC, Act.put, zzD, zzE, zzF]
        refine wpAnyH_ready (rs := [13]) (by kernel_rfl) (by simp) (AllReadyH.cons rfl (fun K hK => ?_) AllReadyH.nil)
        go_simp
        go_at_call 98
        refine (part_any (S : Int) xb (by omega) (by omega) _).mono ?_
        rintro e v3 ⟨rfl, hb1⟩
        have hS1 := (hb1.block gn (Array.getElem?_eq_some_iff.1 hHeld).1).trans hHeld
        have P3 := Lib.hid (P2.out.then hb1)
        clear hHeld hb1 P2
        go_wp2_with fail
        refine hK.out _ _ hS1 (fun hHeld => ?_)
        clear hK K hS1
        try simp only [zzA, zzB, zzC, Act.put, zzD, zzE, zzF]
        refine wpAnyH_ready (rs := [14]) (by kernel_rfl) (by simp) (AllReadyH.cons rfl (fun K hK => ?_) AllReadyH.nil)
        go_simp
        go_at_call 97
        refine (HED.out _).mono ?_
        rintro e v4 ⟨gx, m1, rfl, hl1, hx1, hb1⟩
        have hS1 := (hb1.block gn (Array.getElem?_eq_some_iff.1 hHeld).1).trans hHeld
        have P4 := Lib.hid (P3.out.then hb1)
        have HL1 := Lib.hid hl1
        have HX1 := Lib.hid hx1
        clear hHeld hb1 P3 hl1 hx1 HED
        go_wp2_with fail
        refine hK.out _ _ hS1 (fun hHeld => ?_)
        clear hK K hS1
        try simp only [zzA, zzB, zzC, Act.put, zzD, zzE, zzF]
        refine wpAnyH_ready (rs := [15]) (by kernel_rfl) (by simp) (AllReadyH.cons rfl (fun K hK => ?_) AllReadyH.nil)
        rw [if_pos (by rfl)]
        have hb0 := HLX.out
        have hb3 := HL1.out
        have hb6 := HEL.out
        refine wp_append_lies _ _ _ 22 rfl W0.heap.size 53 i0 zeroEd 7 56 Tryz.underlying22 hi hz0 hz1 hz2 rfl (by omega) (.slice A m d) EK.length (cellsEs EK) rfl P4.out.ed ⟨gx, 0, none⟩ m1 m1 (cellsEs ex) rfl (by rw [cellsEs_len, hb3]) (RdE.cells HX1.out) (cellsEs_one _) (by omega) (by simp only [maxLen]; omega) (by omega) P4.out.low.size _ rfl ?_
        clear hb0 hb3 hb6
        intro q cap w3 ho3 hg3 hat3 hlt3
        have kz := P4.out.net1 hg3
        have qc := cell_of_row w3 W.heap.size 1 _ _ _ kz
        have qf := frozen_of_row w3 W.heap.size 1 _ _ kz
        have hS1 := (hg3.block gn (Array.getElem?_eq_some_iff.1 hHeld).1 (fun e => VG.out gn e.symm rfl)).trans hHeld
        have hne : gn ≠ W.heap.size := fun e => by rw [e, kz] at hS1; have := Option.some.inj hS1; injection this with _ h1 _; exact absurd h1 (by decide)
        have hP6 := P4.out.put (edge_append rfl ex HL1.out ho3) hg3 hat3
        have hS2 := (Below.heap_setCell w3 ⟨W.heap.size, 1, none⟩ (.slice (some ⟨q, 0, none⟩) (EK.length + m1) cap) gn (fun e => hne e)).trans hS1
        clear hHeld
        refine hK.out _ _ hS1 (fun hHeld => ?_)
        clear hK K hS1 hne kz hg3 hat3 hlt3 ho3
        try simp only [zzA, zzB, zzC, Act.put, zzD, zzE, zzF]
        refine wpAnyH_take (i := 16) (v := ?vzpf516) rfl (by kernel_rfl) (by kernel_rfl) (by kernel_rfl) (fun _ _ _ h => h) (Or.inl ⟨by rfl, ?yzpf516⟩) hHeld ?rzpf516
        case yzpf516 => (intro wS hSw; clear hSw; go_simp; try (with_reducible rfl))
        try simp only [zzA, zzB, zzC, Act.put, zzD, zzE, zzF]
        refine wpAnyH_ready (rs := [17]) (by kernel_rfl) (by simp) (AllReadyH.cons rfl (fun K hK => ?_) AllReadyH.nil)
        clear hHeld
        go_simp
        refine hK.out _ _ hS2 (fun hHeld => ?_)
        clear hK K hS2 qc qf hHeld
        try simp only [zzA, zzB, zzC, Act.put, zzD, zzE, zzF]
        refine wpAnyH_done (by kernel_rfl) ?_ _
        have P6 := Lib.hid hP6
        clear hP6
        go_wp2_with fail
        refine ⟨⟨k + 1, some ⟨q, 0, none⟩, EK.length + m1, cap, by omega, by go_num, ?_⟩, by simp [intOf]; omega⟩
        rw [HNX.out, ← List.append_assoc, HEK.out]
        exact P6
      · skip
        go_simp
        go_at_call 98
        refine (part_any (S : Int) (k : Int) (by omega) (by omega) _).mono ?_
        rintro e v6 ⟨rfl, hb1⟩
        have hS1 := (hb1.block gn (Array.getElem?_eq_some_iff.1 hHeld).1).trans hHeld
        have P6 := Lib.hid (PD.out.then hb1)
        clear hHeld hb1 PD
        go_wp2_with fail
        refine hK.out _ _ hS1 (fun hHeld => ?_)
        clear hK K hS1
        try simp only [zzA, zzB, zzC, Act.put, zzD, zzE, zzF]
        refine wpAnyH_ready (rs := [1, 9]) (by kernel_rfl) (by simp) (AllReadyH.cons rfl (fun K hK => ?_) (AllReadyH.cons rfl (fun K hK => ?_) AllReadyH.nil))
        · skip
          have qc := cell_of_row v6 W.heap.size 1 _ _ _ P6.out.net
          go_simp
          refine hK.out _ _ hHeld (fun hHeld => ?_)
          clear hK K qc
          try simp only [zzA, zzB, zzC, Act.put, zzD, zzE, zzF]
          refine wpAnyH_ready (rs := [9]) (by kernel_rfl) (by simp) (AllReadyH.cons rfl (fun K hK => ?_) AllReadyH.nil)
          go_simp
          go_at_call 98
          refine (part_any (S : Int) xa (by omega) (by omega) _).mono ?_
          rintro e v7 ⟨rfl, hb1⟩
          have hS1 := (hb1.block gn (Array.getElem?_eq_some_iff.1 hHeld).1).trans hHeld
          have P7 := Lib.hid (P6.out.then hb1)
          clear hHeld hb1 P6
          go_wp2_with fail
          refine hK.out _ _ hS1 (fun hHeld => ?_)
          clear hK K hS1
          try simp only [zzA, zzB, zzC, Act.put, zzD, zzE, zzF]
          refine wpAnyH_ready (rs := [13]) (by kernel_rfl) (by simp) (AllReadyH.cons rfl (fun K hK => ?_) AllReadyH.nil)
          go_simp
          go_at_call 98
          refine (part_any (S : Int) xb (by omega) (by omega) _).mono ?_
          rintro e v8 ⟨rfl, hb1⟩
          have hS1 := (hb1.block gn (Array.getElem?_eq_some_iff.1 hHeld).1).trans hHeld
          have P8 := Lib.hid (P7.out.then hb1)
          clear hHeld hb1 P7
          go_wp2_with fail
          refine hK.out _ _ hS1 (fun hHeld => ?_)
          clear hK K hS1
          try simp only [zzA, zzB, zzC, Act.put, zzD, zzE, zzF]
          refine wpAnyH_ready (rs := [14]) (by kernel_rfl) (by simp) (AllReadyH.cons rfl (fun K hK => ?_) AllReadyH.nil)
          go_simp
          go_at_call 97
          refine (HED.out _).mono ?_
          rintro e v9 ⟨gx, m1, rfl, hl1, hx1, hb1⟩
          have hS1 := (hb1.block gn (Array.getElem?_eq_some_iff.1 hHeld).1).trans hHeld
          have P9 := Lib.hid (P8.out.then hb1)
          have HL1 := Lib.hid hl1
          have HX1 := Lib.hid hx1
          clear hHeld hb1 P8 hl1 hx1 HED
          go_wp2_with fail
          refine hK.out _ _ hS1 (fun hHeld => ?_)
          clear hK K hS1
          try simp only [zzA, zzB, zzC, Act.put, zzD, zzE, zzF]
          refine wpAnyH_ready (rs := [15]) (by kernel_rfl) (by simp) (AllReadyH.cons rfl (fun K hK => ?_) AllReadyH.nil)
          rw [if_pos (by rfl)]
          have hb0 := HLX.out
          have hb3 := HL1.out
          have hb6 := HEL.out
          refine wp_append_lies _ _ _ 22 rfl W0.heap.size 53 i0 zeroEd 7 56 Tryz.underlying22 hi hz0 hz1 hz2 rfl (by omega) (.slice A m d) EK.length (cellsEs EK) rfl P9.out.ed ⟨gx, 0, none⟩ m1 m1 (cellsEs ex) rfl (by rw [cellsEs_len, hb3]) (RdE.cells HX1.out) (cellsEs_one _) (by omega) (by simp only [maxLen]; omega) (by omega) P9.out.low.size _ rfl ?_
          clear hb0 hb3 hb6
          intro q cap w3 ho3 hg3 hat3 hlt3
          have kz := P9.out.net1 hg3
          have qc := cell_of_row w3 W.heap.size 1 _ _ _ kz
          have qf := frozen_of_row w3 W.heap.size 1 _ _ kz
          have hS1 := (hg3.block gn (Array.getElem?_eq_some_iff.1 hHeld).1 (fun e => VG.out gn e.symm rfl)).trans hHeld
          have hne : gn ≠ W.heap.size := fun e => by rw [e, kz] at hS1; have := Option.some.inj hS1; injection this with _ h1 _; exact absurd h1 (by decide)
          have hP6 := P9.out.put (edge_append rfl ex HL1.out ho3) hg3 hat3
          have hS2 := (Below.heap_setCell w3 ⟨W.heap.size, 1, none⟩ (.slice (some ⟨q, 0, none⟩) (EK.length + m1) cap) gn (fun e => hne e)).trans hS1
          clear hHeld
          refine hK.out _ _ hS1 (fun hHeld => ?_)
          clear hK K hS1 hne kz hg3 hat3 hlt3 ho3
          try simp only [zzA, zzB, zzC, Act.put, zzD, zzE, zzF]
          refine wpAnyH_take (i := 16) (v := ?vzpk1016) rfl (by kernel_rfl) (by kernel_rfl) (by kernel_rfl) (fun _ _ _ h => h) (Or.inl ⟨by rfl, ?yzpk1016⟩) hHeld ?rzpk1016
          case yzpk1016 => (intro wS hSw; clear hSw; go_simp; try (with_reducible rfl))
          try simp only [zzA, zzB, zzC, Act.put, zzD, zzE, zzF]
          refine wpAnyH_ready (rs := [17]) (by kernel_rfl) (by simp) (AllReadyH.cons rfl (fun K hK => ?_) AllReadyH.nil)
          clear hHeld
          go_simp
          refine hK.out _ _ hS2 (fun hHeld => ?_)
          clear hK K hS2 qc qf hHeld
          try simp only [zzA, zzB, zzC, Act.put, zzD, zzE, zzF]
          refine wpAnyH_done (by kernel_rfl) ?_ _
          have P6 := Lib.hid hP6
          clear hP6
          go_wp2_with fail
          refine ⟨⟨k + 1, some ⟨q, 0, none⟩, EK.length + m1, cap, by omega, by go_num, ?_⟩, by simp [intOf]; omega⟩
          rw [HNX.out, ← List.append_assoc, HEK.out]
          exact P6
        · skip
          go_simp
          go_at_call 98
          refine (part_any (S : Int) xa (by omega) (by omega) _).mono ?_
          rintro e v11 ⟨rfl, hb1⟩
          have hS1 := (hb1.block gn (Array.getElem?_eq_some_iff.1 hHeld).1).trans hHeld
          have P11 := Lib.hid (P6.out.then hb1)
          clear hHeld hb1 P6
          go_wp2_with fail
          refine hK.out _ _ hS1 (fun hHeld => ?_)
          clear hK K hS1
          try simp only [zzA, zzB, zzC, Act.put, zzD, zzE, zzF]
          refine wpAnyH_ready (rs := [1, 13]) (by kernel_rfl) (by simp) (AllReadyH.cons rfl (fun K hK => ?_) (AllReadyH.cons rfl (fun K hK => ?_) AllReadyH.nil))
          · skip
            have qc := cell_of_row v11 W.heap.size 1 _ _ _ P11.out.net
            go_simp
            refine hK.out _ _ hHeld (fun hHeld => ?_)
            clear hK K qc
            try simp only [zzA, zzB, zzC, Act.put, zzD, zzE, zzF]
            refine wpAnyH_ready (rs := [13]) (by kernel_rfl) (by simp) (AllReadyH.cons rfl (fun K hK => ?_) AllReadyH.nil)
            go_simp
            go_at_call 98
            refine (part_any (S : Int) xb (by omega) (by omega) _).mono ?_
            rintro e v12 ⟨rfl, hb1⟩
            have hS1 := (hb1.block gn (Array.getElem?_eq_some_iff.1 hHeld).1).trans hHeld
            have P12 := Lib.hid (P11.out.then hb1)
            clear hHeld hb1 P11
            go_wp2_with fail
            refine hK.out _ _ hS1 (fun hHeld => ?_)
            clear hK K hS1
            try simp only [zzA, zzB, zzC, Act.put, zzD, zzE, zzF]
            refine wpAnyH_ready (rs := [14]) (by kernel_rfl) (by simp) (AllReadyH.cons rfl (fun K hK => ?_) AllReadyH.nil)
            go_simp
            go_at_call 97
            refine (HED.out _).mono ?_
            rintro e v13 ⟨gx, m1, rfl, hl1, hx1, hb1⟩
            have hS1 := (hb1.block gn (Array.getElem?_eq_some_iff.1 hHeld).1).trans hHeld
            have P13 := Lib.hid (P12.out.then hb1)
            have HL1 := Lib.hid hl1
            have HX1 := Lib.hid hx1
            clear hHeld hb1 P12 hl1 hx1 HED
            go_wp2_with fail
            refine hK.out _ _ hS1 (fun hHeld => ?_)
            clear hK K hS1
            try simp only [zzA, zzB, zzC, Act.put, zzD, zzE, zzF]
            refine wpAnyH_ready (rs := [15]) (by kernel_rfl) (by simp) (AllReadyH.cons rfl (fun K hK => ?_) AllReadyH.nil)
            rw [if_pos (by rfl)]
            have hb0 := HLX.out
            have hb3 := HL1.out
            have hb6 := HEL.out
            refine wp_append_lies _ _ _ 22 rfl W0.heap.size 53 i0 zeroEd 7 56 Tryz.underlying22 hi hz0 hz1 hz2 rfl (by omega) (.slice A m d) EK.length (cellsEs EK) rfl P13.out.ed ⟨gx, 0, none⟩ m1 m1 (cellsEs ex) rfl (by rw [cellsEs_len, hb3]) (RdE.cells HX1.out) (cellsEs_one _) (by omega) (by simp only [maxLen]; omega) (by omega) P13.out.low.size _ rfl ?_
            clear hb0 hb3 hb6
            intro q cap w3 ho3 hg3 hat3 hlt3
            have kz := P13.out.net1 hg3
            have qc := cell_of_row w3 W.heap.size 1 _ _ _ kz
            have qf := frozen_of_row w3 W.heap.size 1 _ _ kz
            have hS1 := (hg3.block gn (Array.getElem?_eq_some_iff.1 hHeld).1 (fun e => VG.out gn e.symm rfl)).trans hHeld
            have hne : gn ≠ W.heap.size := fun e => by rw [e, kz] at hS1; have := Option.some.inj hS1; injection this with _ h1 _; exact absurd h1 (by decide)
            have hP6 := P13.out.put (edge_append rfl ex HL1.out ho3) hg3 hat3
            have hS2 := (Below.heap_setCell w3 ⟨W.heap.size, 1, none⟩ (.slice (some ⟨q, 0, none⟩) (EK.length + m1) cap) gn (fun e => hne e)).trans hS1
            clear hHeld
            refine hK.out _ _ hS1 (fun hHeld => ?_)
            clear hK K hS1 hne kz hg3 hat3 hlt3 ho3
            try simp only [zzA, zzB, zzC, Act.put, zzD, zzE, zzF]
            refine wpAnyH_take (i := 16) (v := ?vzpo1416) rfl (by kernel_rfl) (by kernel_rfl) (by kernel_rfl) (fun _ _ _ h => h) (Or.inl ⟨by rfl, ?yzpo1416⟩) hHeld ?rzpo1416
            case yzpo1416 => (intro wS hSw; clear hSw; go_simp; try (with_reducible rfl))
            try simp only [zzA, zzB, zzC, Act.put, zzD, zzE, zzF]
            refine wpAnyH_ready (rs := [17]) (by kernel_rfl) (by simp) (AllReadyH.cons rfl (fun K hK => ?_) AllReadyH.nil)
            clear hHeld
            go_simp
            refine hK.out _ _ hS2 (fun hHeld => ?_)
            clear hK K hS2 qc qf hHeld
            try simp only [zzA, zzB, zzC, Act.put, zzD, zzE, zzF]
            refine wpAnyH_done (by kernel_rfl) ?_ _
            have P6 := Lib.hid hP6
            clear hP6
            go_wp2_with fail
            refine ⟨⟨k + 1, some ⟨q, 0, none⟩, EK.length + m1, cap, by omega, by go_num, ?_⟩, by simp [intOf]; omega⟩
            rw [HNX.out, ← List.append_assoc, HEK.out]
            exact P6
          · skip
            go_simp
            go_at_call 98
            refine (part_any (S : Int) xb (by omega) (by omega) _).mono ?_
            rintro e v15 ⟨rfl, hb1⟩
            have hS1 := (hb1.block gn (Array.getElem?_eq_some_iff.1 hHeld).1).trans hHeld
            have P15 := Lib.hid (P11.out.then hb1)
            clear hHeld hb1 P11
            go_wp2_with fail
            refine hK.out _ _ hS1 (fun hHeld => ?_)
            clear hK K hS1
            try simp only [zzA, zzB, zzC, Act.put, zzD, zzE, zzF]
            refine wpAnyH_ready (rs := [1, 14]) (by kernel_rfl) (by simp) (AllReadyH.cons rfl (fun K hK => ?_) (AllReadyH.cons rfl (fun K hK => ?_) AllReadyH.nil))
            · skip
              have qc := cell_of_row v15 W.heap.size 1 _ _ _ P15.out.net
              go_simp
              refine hK.out _ _ hHeld (fun hHeld => ?_)
              clear hK K qc
              try simp only [zzA, zzB, zzC, Act.put, zzD, zzE, zzF]
              refine wpAnyH_ready (rs := [14]) (by kernel_rfl) (by simp) (AllReadyH.cons rfl (fun K hK => ?_) AllReadyH.nil)
              go_simp
              go_at_call 97
              refine (HED.out _).mono ?_
              rintro e v16 ⟨gx, m1, rfl, hl1, hx1, hb1⟩
              have hS1 := (hb1.block gn (Array.getElem?_eq_some_iff.1 hHeld).1).trans hHeld
              have P16 := Lib.hid (P15.out.then hb1)
              have HL1 := Lib.hid hl1
              have HX1 := Lib.hid hx1
              clear hHeld hb1 P15 hl1 hx1 HED
              go_wp2_with fail
              refine hK.out _ _ hS1 (fun hHeld => ?_)
              clear hK K hS1
              try simp only [zzA, zzB, zzC, Act.put, zzD, zzE, zzF]
              refine wpAnyH_ready (rs := [15]) (by kernel_rfl) (by simp) (AllReadyH.cons rfl (fun K hK => ?_) AllReadyH.nil)
              rw [if_pos (by rfl)]
              have hb0 := HLX.out
              have hb3 := HL1.out
              have hb6 := HEL.out
              refine wp_append_lies _ _ _ 22 rfl W0.heap.size 53 i0 zeroEd 7 56 Tryz.underlying22 hi hz0 hz1 hz2 rfl (by omega) (.slice A m d) EK.length (cellsEs EK) rfl P16.out.ed ⟨gx, 0, none⟩ m1 m1 (cellsEs ex) rfl (by rw [cellsEs_len, hb3]) (RdE.cells HX1.out) (cellsEs_one _) (by omega) (by simp only [maxLen]; omega) (by omega) P16.out.low.size _ rfl ?_
              clear hb0 hb3 hb6
              intro q cap w3 ho3 hg3 hat3 hlt3
              have kz := P16.out.net1 hg3
              have qc := cell_of_row w3 W.heap.size 1 _ _ _ kz
              have qf := frozen_of_row w3 W.heap.size 1 _ _ kz
              have hS1 := (hg3.block gn (Array.getElem?_eq_some_iff.1 hHeld).1 (fun e => VG.out gn e.symm rfl)).trans hHeld
              have hne : gn ≠ W.heap.size := fun e => by rw [e, kz] at hS1; have := Option.some.inj hS1; injection this with _ h1 _; exact absurd h1 (by decide)
              have hP6 := P16.out.put (edge_append rfl ex HL1.out ho3) hg3 hat3
              have hS2 := (Below.heap_setCell w3 ⟨W.heap.size, 1, none⟩ (.slice (some ⟨q, 0, none⟩) (EK.length + m1) cap) gn (fun e => hne e)).trans hS1
              clear hHeld
              refine hK.out _ _ hS1 (fun hHeld => ?_)
              clear hK K hS1 hne kz hg3 hat3 hlt3 ho3
              try simp only [zzA, zzB, zzC, Act.put, zzD, zzE, zzF]
              refine wpAnyH_take (i := 16) (v := ?vzpr1716) rfl (by kernel_rfl) (by kernel_rfl) (by kernel_rfl) (fun _ _ _ h => h) (Or.inl ⟨by rfl, ?yzpr1716⟩) hHeld ?rzpr1716
              case yzpr1716 => (intro wS hSw; clear hSw; go_simp; try (with_reducible rfl))
              try simp only [zzA, zzB, zzC, Act.put, zzD, zzE, zzF]
              refine wpAnyH_ready (rs := [17]) (by kernel_rfl) (by simp) (AllReadyH.cons rfl (fun K hK => ?_) AllReadyH.nil)
              clear hHeld
              go_simp
              refine hK.out _ _ hS2 (fun hHeld => ?_)
              clear hK K hS2 qc qf hHeld
              try simp only [zzA, zzB, zzC, Act.put, zzD, zzE, zzF]
              refine wpAnyH_done (by kernel_rfl) ?_ _
              have P6 := Lib.hid hP6
              clear hP6
              go_wp2_with fail
              refine ⟨⟨k + 1, some ⟨q, 0, none⟩, EK.length + m1, cap, by omega, by go_num, ?_⟩, by simp [intOf]; omega⟩
              rw [HNX.out, ← List.append_assoc, HEK.out]
              exact P6
            · skip
              go_simp
              go_at_call 97
              refine (HED.out _).mono ?_
              rintro e v18 ⟨gx, m1, rfl, hl1, hx1, hb1⟩
              have hS1 := (hb1.block gn (Array.getElem?_eq_some_iff.1 hHeld).1).trans hHeld
              have P18 := Lib.hid (P15.out.then hb1)
              have HL1 := Lib.hid hl1
              have HX1 := Lib.hid hx1
              clear hHeld hb1 P15 hl1 hx1 HED
              go_wp2_with fail
              refine hK.out _ _ hS1 (fun hHeld => ?_)
              clear hK K hS1
              try simp only [zzA, zzB, zzC, Act.put, zzD, zzE, zzF]
              refine wpAnyH_ready (rs := [1]) (by kernel_rfl) (by simp) (AllReadyH.cons rfl (fun K hK => ?_) AllReadyH.nil)
              have qc := cell_of_row v18 W.heap.size 1 _ _ _ P18.out.net
              go_simp
              refine hK.out _ _ hHeld (fun hHeld => ?_)
              clear hK K qc
              try simp only [zzA, zzB, zzC, Act.put, zzD, zzE, zzF]
              refine wpAnyH_ready (rs := [15]) (by kernel_rfl) (by simp) (AllReadyH.cons rfl (fun K hK => ?_) AllReadyH.nil)
              rw [if_pos (by rfl)]
              have hb0 := HLX.out
              have hb3 := HL1.out
              have hb6 := HEL.out
              refine wp_append_lies _ _ _ 22 rfl W0.heap.size 53 i0 zeroEd 7 56 Tryz.underlying22 hi hz0 hz1 hz2 rfl (by omega) (.slice A m d) EK.length (cellsEs EK) rfl P18.out.ed ⟨gx, 0, none⟩ m1 m1 (cellsEs ex) rfl (by rw [cellsEs_len, hb3]) (RdE.cells HX1.out) (cellsEs_one _) (by omega) (by simp only [maxLen]; omega) (by omega) P18.out.low.size _ rfl ?_
              clear hb0 hb3 hb6
              intro q cap w3 ho3 hg3 hat3 hlt3
              have kz := P18.out.net1 hg3
              have qc := cell_of_row w3 W.heap.size 1 _ _ _ kz
              have qf := frozen_of_row w3 W.heap.size 1 _ _ kz
              have hS1 := (hg3.block gn (Array.getElem?_eq_some_iff.1 hHeld).1 (fun e => VG.out gn e.symm rfl)).trans hHeld
              have hne : gn ≠ W.heap.size := fun e => by rw [e, kz] at hS1; have := Option.some.inj hS1; injection this with _ h1 _; exact absurd h1 (by decide)
              have hP6 := P18.out.put (edge_append rfl ex HL1.out ho3) hg3 hat3
              have hS2 := (Below.heap_setCell w3 ⟨W.heap.size, 1, none⟩ (.slice (some ⟨q, 0, none⟩) (EK.length + m1) cap) gn (fun e => hne e)).trans hS1
              clear hHeld
              refine hK.out _ _ hS1 (fun hHeld => ?_)
              clear hK K hS1 hne kz hg3 hat3 hlt3 ho3
              try simp only [zzA, zzB, zzC, Act.put, zzD, zzE, zzF]
              refine wpAnyH_take (i := 16) (v := ?vzpt1916) rfl (by kernel_rfl) (by kernel_rfl) (by kernel_rfl) (fun _ _ _ h => h) (Or.inl ⟨by rfl, ?yzpt1916⟩) hHeld ?rzpt1916
              case yzpt1916 => (intro wS hSw; clear hSw; go_simp; try (with_reducible rfl))
              try simp only [zzA, zzB, zzC, Act.put, zzD, zzE, zzF]
              refine wpAnyH_ready (rs := [17]) (by kernel_rfl) (by simp) (AllReadyH.cons rfl (fun K hK => ?_) AllReadyH.nil)
              clear hHeld
              go_simp
              refine hK.out _ _ hS2 (fun hHeld => ?_)
              clear hK K hS2 qc qf hHeld
              try simp only [zzA, zzB, zzC, Act.put, zzD, zzE, zzF]
              refine wpAnyH_done (by kernel_rfl) ?_ _
              have P6 := Lib.hid hP6
              clear hP6
              go_wp2_with fail
              refine ⟨⟨k + 1, some ⟨q, 0, none⟩, EK.length + m1, cap, by omega, by go_num, ?_⟩, by simp [intOf]; omega⟩
              rw [HNX.out, ← List.append_assoc, HEK.out]
              exact P6
    · obtain rfl : k = n := by omega
      rw [show L.take k = L from List.take_of_length_le (by rw [HN.out]; exact Nat.le_refl _)] at PK
      have HLEN := Lib.hid (show (E ++ nodesE (S : Int) L 0).length ≤ 200000 from by have h1 := nodes_len (S : Int) L 0; have h2 := HE.out; have h3 := HN.out; rw [List.length_append]; omega)
      generalize hEN : E ++ nodesE (S : Int) L 0 = EN at *
      have HEN := Lib.hid hEN
      clear hEN
      have hwn : IntKind.i64.wrap ((k : Int) - 1) = ((k - 1 : Nat) : Int) := by rw [IntWalk.i64_in _ (by omega)]; omega
      obtain ⟨p, hp⟩ : ∃ p, S + 2 * (k - 1) = p := ⟨_, rfl⟩
      obtain ⟨p1, hp1⟩ : ∃ x, p + 1 = x := ⟨_, rfl⟩
      obtain ⟨p2, hp2⟩ : ∃ x, p1 + 1 = x := ⟨_, rfl⟩
      have hw1 : IntKind.i64.wrap ((p1 : Int) + 1) = (p2 : Int) := by rw [IntWalk.i64_in _ (by omega)]; omega
      have HPA := Lib.hid (show ∀ w, Calls Tryz.prog 98 #[.int .i64 (S : Int), .int .i64 ((k - 1 : Nat) : Int)] w (fun e w' => e = .returned (.agg #[.int .i64 (p : Int), .int .i64 (p1 : Int)]) ∧ Below w.heap.size w w') from fun w => by
        have h := part_any (S : Int) ((k - 1 : Nat) : Int) (by omega) (by omega) w
        have e1 : (partE (S : Int) ((k - 1 : Nat) : Int)).i = (p : Int) := by unfold partE; dsimp only; omega
        have e2 : (partE (S : Int) ((k - 1 : Nat) : Int)).o = (p1 : Int) := by unfold partE; dsimp only; omega
        unfold GotPt at h
        rw [e1, e2] at h
        exact h)
      have HP := Lib.hid hp
      have HP1 := Lib.hid hp1
      have HP2 := Lib.hid hp2
      clear hp hp1 hp2
      go_upto_region 7 with fail
      go_wp2_with fail
      refine (HPA.out _).mono ?_
      rintro e w4 ⟨rfl, hb4⟩
      have P4 := PK.out.then hb4
      have P5 := P4.then (bl_alloc (Below.refl _ w4) (.cells #[.int .i64 (p : Int), .int .i64 (p1 : Int)] 150))
      have kp := heap_alloc_new w4 (.cells #[.int .i64 (p : Int), .int .i64 (p1 : Int)] 150)
      clear P4 PK hb4
      go_upto_region 8 with fail
      generalize w4.alloc (.cells #[.int .i64 (p : Int), .int .i64 (p1 : Int)] 150) = w5 at *
      generalize w4.heap.size = gp at *
      have qp := cell_of_row w5 gp 1 _ _ _ kp
      have qn := cell_of_row w5 W.heap.size 0 _ _ _ P5.net
      have qz := frozen_of_row w5 W.heap.size 0 _ _ P5.net
      have hgp : gp ≠ W.heap.size := fun e => by rw [e, P5.net] at kp; have := Option.some.inj kp; injection this with _ h1 _; exact absurd h1 (by decide)
      have P6 := P5.state p2
      have kp6 := (Below.heap_setCell w5 ⟨W.heap.size, 0, none⟩ (.int .i64 (p2 : Int)) gp (fun e => hgp e)).trans kp
      clear P5 kp
      go_upto_region 9 with fail
      clear qp qn qz hwn hw1 HPA HL HR OE
      generalize w5.setCell ⟨W.heap.size, 0, none⟩ (.int .i64 (p2 : Int)) = w6 at *
      have hPD : Pat W0 W (.slice Ae ne ce) p2 X (.slice Ax nx cx) (.slice A m d) EN w6.drew := P6.then (bl_drewN (Below.refl _ w6) 1)
      have knd : w6.drew.heap[gp]? = some (.cells #[.int .i64 (p : Int), .int .i64 (p1 : Int)] 150 (0, 0)) := kp6
      have VG := Lib.hid (show ∀ i, (Value.slice A m d).ownBlock = some i → i ≠ gp from fun i e h => by
        subst h
        obtain ⟨_, h2⟩ := hPD.ed
        rcases h2 with ⟨e1, _⟩ | ⟨g, cap, cur, e1, _, hg, _⟩
        · rw [e1] at e; simp [Value.ownBlock] at e
        · rw [e1] at e
          obtain rfl : g = i := Option.some.inj e
          rw [knd] at hg
          have := Option.some.inj hg
          injection this with _ h1 _
          exact absurd h1 (by decide))
      clear P6 kp6
      obtain ⟨i0, hi, hz0, hz1, hz2⟩ := info_parts info_edge
      refine wp_region_held_drew (S := fun W' => W'.heap[gp]? = some (.cells #[.int .i64 (p : Int), .int .i64 (p1 : Int)] 150 (0, 0))) (by kernel_rfl) knd (fun hHeld => ?_)
      clear knd
      have PD := Lib.hid hPD
      clear hPD
      generalize hwd : w6.drew = wd at *
      clear hwd
      try simp only [zzA, zzB, zzC, Act.put, zzD, zzE, zzF]
      refine wpAnyH_take (i := 0) (v := ?vzs0) rfl (by kernel_rfl) (by kernel_rfl) (by kernel_rfl) (fun _ _ _ h => h) (Or.inl ⟨by rfl, ?yzs0⟩) hHeld ?rzs0
      case yzs0 => (intro wS hSw; clear hSw; go_simp; try (with_reducible rfl))
      try simp only [zzA, zzB, zzC, Act.put, zzD, zzE, zzF]
      refine wpAnyH_take (i := 2) (v := ?vzs2) rfl (by kernel_rfl) (by kernel_rfl) (by kernel_rfl) (fun _ _ _ h => h) (Or.inl ⟨by rfl, ?yzs2⟩) hHeld ?rzs2
      case yzs2 => (intro wS hSw; clear hSw; go_simp; try (with_reducible rfl))
      try simp only [zzA, zzB, zzC, Act.put, zzD, zzE, zzF]
      refine wpAnyH_take (i := 3) (v := ?vzs3) rfl (by kernel_rfl) (by kernel_rfl) (by kernel_rfl) (fun _ _ _ h => h) (Or.inl ⟨by rfl, ?yzs3⟩) hHeld ?rzs3
      case yzs3 => (intro wS hSw; have q1 := cell_of_row wS gp 0 _ _ _ hSw; clear hSw; go_simp; try (with_reducible rfl))
      try simp only [zzA, zzB, zzC, Act.put, zzD, zzE, zzF]
      refine wpAnyH_ready (rs := [1, 4]) (by kernel_rfl) (by simp) (AllReadyH.cons rfl (fun K hK => ?_) (AllReadyH.cons rfl (fun K hK => ?_) AllReadyH.nil))
      · skip
        have qc := cell_of_row wd W.heap.size 1 _ _ _ PD.out.net
        go_simp
        refine hK.out _ _ hHeld (fun hHeld => ?_)
        clear hK K qc
        try simp only [zzA, zzB, zzC, Act.put, zzD, zzE, zzF]
        refine wpAnyH_ready (rs := [4]) (by kernel_rfl) (by simp) (AllReadyH.cons rfl (fun K hK => ?_) AllReadyH.nil)
        go_simp
        go_at_call 99
        refine (fr_any 0 (p : Int) _).mono ?_
        rintro e v1 ⟨rfl, hb1⟩
        have hS1 := (hb1.block gp (Array.getElem?_eq_some_iff.1 hHeld).1).trans hHeld
        have P1 := Lib.hid (PD.out.then hb1)
        clear hHeld hb1 PD
        go_wp2_with fail
        refine hK.out _ _ hS1 (fun hHeld => ?_)
        clear hK K hS1
        try simp only [zzA, zzB, zzC, Act.put, zzD, zzE, zzF]
        refine wpAnyH_ready (rs := [5]) (by kernel_rfl) (by simp) (AllReadyH.cons rfl (fun K hK => ?_) AllReadyH.nil)
        have ka := heap_alloc_new v1 (.cells #[.int .i64 0, .int .i64 (p : Int), .int .u64 0, .int .u64 0, .int .u64 0, .int .u64 0, .bool true] 53)
        have P2 := Lib.hid (P1.out.then (bl_alloc (Below.refl _ v1) (.cells #[.int .i64 0, .int .i64 (p : Int), .int .u64 0, .int .u64 0, .int .u64 0, .int .u64 0, .bool true] 53)))
        have hS1 := (Below.heap_alloc v1 (.cells #[.int .i64 0, .int .i64 (p : Int), .int .u64 0, .int .u64 0, .int .u64 0, .int .u64 0, .bool true] 53) gp (Array.getElem?_eq_some_iff.1 hHeld).1).trans hHeld
        go_simp
        refine hK.out _ _ hS1 (fun hHeld => ?_)
        clear hK K hS1 P1
        generalize v1.alloc (.cells #[.int .i64 0, .int .i64 (p : Int), .int .u64 0, .int .u64 0, .int .u64 0, .int .u64 0, .bool true] 53) = v2 at *
        generalize v1.heap.size = ga at *
        have KA := Lib.hid ka
        clear ka
        try simp only [zzA, zzB, zzC, Act.put, zzD, zzE, zzF]
        refine wpAnyH_ready (rs := [6]) (by kernel_rfl) (by simp) (AllReadyH.cons rfl (fun K hK => ?_) AllReadyH.nil)
        rw [if_pos (by rfl)]
        have hb6 := HLEN.out
        refine wp_append_lies _ _ _ 22 rfl W0.heap.size 53 i0 zeroEd 7 56 Tryz.underlying22 hi hz0 hz1 hz2 rfl (by omega) (.slice A m d) EN.length (cellsEs EN) rfl P2.out.ed ⟨ga, 0, none⟩ 1 1 (cellsEs [freeE 0 (p : Int)]) rfl rfl (RdE.cells (rde_row KA.out rfl)) (cellsEs_one _) (by omega) (by simp only [maxLen]; omega) (by omega) P2.out.low.size _ rfl ?_
        clear hb6
        intro q cap w3 ho3 hg3 hat3 hlt3
        have kz := P2.out.net1 hg3
        have qc := cell_of_row w3 W.heap.size 1 _ _ _ kz
        have qf := frozen_of_row w3 W.heap.size 1 _ _ kz
        have hS1 := (hg3.block gp (Array.getElem?_eq_some_iff.1 hHeld).1 (fun e => VG.out gp e.symm rfl)).trans hHeld
        have hP6 := P2.out.put (edge_append rfl [freeE 0 (p : Int)] rfl ho3) hg3 hat3
        have hS2 := (Below.heap_setCell w3 ⟨W.heap.size, 1, none⟩ (.slice (some ⟨q, 0, none⟩) (EN.length + 1) cap) gp (fun e => hgp e)).trans hS1
        clear hHeld
        refine hK.out _ _ hS1 (fun hHeld => ?_)
        clear hK K hS1 kz hg3 hat3 hlt3 ho3
        try simp only [zzA, zzB, zzC, Act.put, zzD, zzE, zzF]
        refine wpAnyH_take (i := 7) (v := ?vzsd37) rfl (by kernel_rfl) (by kernel_rfl) (by kernel_rfl) (fun _ _ _ h => h) (Or.inl ⟨by rfl, ?yzsd37⟩) hHeld ?rzsd37
        case yzsd37 => (intro wS hSw; clear hSw; go_simp; try (with_reducible rfl))
        try simp only [zzA, zzB, zzC, Act.put, zzD, zzE, zzF]
        refine wpAnyH_ready (rs := [8]) (by kernel_rfl) (by simp) (AllReadyH.cons rfl (fun K hK => ?_) AllReadyH.nil)
        clear hHeld
        go_simp
        refine hK.out _ _ hS2 (fun hHeld => ?_)
        clear hK K hS2 qc qf
        try simp only [zzA, zzB, zzC, Act.put, zzD, zzE, zzF]
        refine wpAnyH_done (by kernel_rfl) ?_ _
        clear hi hz0 hz1 hz2 KA VG P2
        obtain ⟨i0, hi, hz0, hz1, hz2⟩ := info_parts info_int
        generalize w3.setCell ⟨W.heap.size, 1, none⟩ (.slice (some ⟨q, 0, none⟩) (EN.length + 1) cap) = w7 at *
        have PE := Lib.hid hP6
        have c2 := cell_of_row w7 W.heap.size 2 _ _ _ hP6.net
        have cp := cell_of_row w7 gp 1 _ _ _ hHeld
        have P8 := hP6.then (bl_alloc (Below.refl _ w7) (.cells #[.int .i64 (p1 : Int)] 3))
        have hxl := HX.out
        clear hP6 hHeld
        go_upto_region 11 with (at_builtin; refine wpList_append_lies _ rfl _ _ 23 rfl W0.heap.size 3 i0 (.int .i64 0) 1 8 Tryz.underlying23 hi hz0 hz1 hz2 rfl (by decide) (.slice Ax nx cx) X.length (X.map nv) rfl P8.en ⟨w7.heap.size, 0, none⟩ 1 1 [.int .i64 (p1 : Int)] rfl rfl (one_row _ _ _) (by simp [Value.oneCell']) (by omega) (by simp only [maxLen]; omega) (by omega) P8.low.size _ rfl ?_; intro q2 cap2 w8 ho8 hg8 hat8 hlt8; have kz2 := P8.net2 hg8; have c22 := cell_of_row w8 W.heap.size 2 _ _ _ kz2; have f22 := frozen_of_row w8 W.heap.size 2 _ _ kz2)
        have ho9 : OwnI w8 W0.heap.size (.slice (some ⟨q2, 0, none⟩) (X.length + 1) cap2) (X ++ [p1]) := by
          unfold OwnI
          rw [List.length_append, List.length_singleton, List.map_append]
          exact ho8
        have PZ := P8.fin ho9 hg8 hat8
        clear ho8 ho9 hg8 hat8 hlt8 kz2 c22 f22 P8 PE c2 cp hi hz0 hz1 hz2
        generalize w8.setCell ⟨W.heap.size, 2, none⟩ (.slice (some ⟨q2, 0, none⟩) (X.length + 1) cap2) = w9 at *
        have LZ := Lib.hid (load_net w9 PZ.net)
        have kr := PZ.res
        have PZ2 := Lib.hid PZ
        clear PZ
        go_wp2_with (first | (refine wpList_load_part 25 3 _ rfl rfl ⟨W.heap.size, 0, none⟩ rfl [.int .i64 (p2 : Int), .slice (some ⟨q, 0, none⟩) (EN.length + 1) cap, .slice (some ⟨q2, 0, none⟩) (X.length + 1) cap2] (agg_net _) (sz_net _) rfl LZ.out ?_) | (refine wpList_store_row rfl 25 _ _ rfl (W.heap.size + 1) _ rfl rfl 25 _ kr (by rw [size_net]; rfl) (by rfl) (by simp [Value.oneCell']) ?_))
        refine bodyPost_ret (v := .agg #[.int .i64 (p2 : Int), .slice (some ⟨q, 0, none⟩) (EN.length + 1) cap, .slice (some ⟨q2, 0, none⟩) (X.length + 1) cap2]) (results_cell_row rfl _ _ (W.heap.size + 1) 25 _ (0, 0) _ rfl (setRow_heap w9 (W.heap.size + 1) _ #[.int .i64 (p2 : Int), .slice (some ⟨q, 0, none⟩) (EN.length + 1) cap, .slice (some ⟨q2, 0, none⟩) (X.length + 1) cap2] _ _ kr) Tryz.underlying25 rfl (by rw [size_net]; rfl)) rfl (post_is HQ ?_)
        obtain ⟨z1, z2, z3, z4, z5, z6, z7⟩ := PZ2.out.done #[.int .i64 (p2 : Int), .slice (some ⟨q, 0, none⟩) (EN.length + 1) cap, .slice (some ⟨q2, 0, none⟩) (X.length + 1) cap2]
        have e1 : S + 2 * L.length = p2 := by have := HP.out; have := HP1.out; have := HP2.out; have := HN.out; omega
        have e2 : S + 2 * (L.length - 1) = p := by have := HP.out; have := HN.out; omega
        unfold GotWp
        rw [e1, e2, HEN.out, HP1.out]
        exact ⟨_, _, _, _, _, _, rfl, z1, z2, z3, z4, z5, z6, z7⟩
      · skip
        go_simp
        go_at_call 99
        refine (fr_any 0 (p : Int) _).mono ?_
        rintro e v4 ⟨rfl, hb1⟩
        have hS1 := (hb1.block gp (Array.getElem?_eq_some_iff.1 hHeld).1).trans hHeld
        have P4 := Lib.hid (PD.out.then hb1)
        clear hHeld hb1 PD
        go_wp2_with fail
        refine hK.out _ _ hS1 (fun hHeld => ?_)
        clear hK K hS1
        try simp only [zzA, zzB, zzC, Act.put, zzD, zzE, zzF]
        refine wpAnyH_ready (rs := [1, 5]) (by kernel_rfl) (by simp) (AllReadyH.cons rfl (fun K hK => ?_) (AllReadyH.cons rfl (fun K hK => ?_) AllReadyH.nil))
        · skip
          have qc := cell_of_row v4 W.heap.size 1 _ _ _ P4.out.net
          go_simp
          refine hK.out _ _ hHeld (fun hHeld => ?_)
          clear hK K qc
          try simp only [zzA, zzB, zzC, Act.put, zzD, zzE, zzF]
          refine wpAnyH_ready (rs := [5]) (by kernel_rfl) (by simp) (AllReadyH.cons rfl (fun K hK => ?_) AllReadyH.nil)
          have ka := heap_alloc_new v4 (.cells #[.int .i64 0, .int .i64 (p : Int), .int .u64 0, .int .u64 0, .int .u64 0, .int .u64 0, .bool true] 53)
          have P5 := Lib.hid (P4.out.then (bl_alloc (Below.refl _ v4) (.cells #[.int .i64 0, .int .i64 (p : Int), .int .u64 0, .int .u64 0, .int .u64 0, .int .u64 0, .bool true] 53)))
          have hS1 := (Below.heap_alloc v4 (.cells #[.int .i64 0, .int .i64 (p : Int), .int .u64 0, .int .u64 0, .int .u64 0, .int .u64 0, .bool true] 53) gp (Array.getElem?_eq_some_iff.1 hHeld).1).trans hHeld
          go_simp
          refine hK.out _ _ hS1 (fun hHeld => ?_)
          clear hK K hS1 P4
          generalize v4.alloc (.cells #[.int .i64 0, .int .i64 (p : Int), .int .u64 0, .int .u64 0, .int .u64 0, .int .u64 0, .bool true] 53) = v5 at *
          generalize v4.heap.size = ga at *
          have KA := Lib.hid ka
          clear ka
          try simp only [zzA, zzB, zzC, Act.put, zzD, zzE, zzF]
          refine wpAnyH_ready (rs := [6]) (by kernel_rfl) (by simp) (AllReadyH.cons rfl (fun K hK => ?_) AllReadyH.nil)
          rw [if_pos (by rfl)]
          have hb6 := HLEN.out
          refine wp_append_lies _ _ _ 22 rfl W0.heap.size 53 i0 zeroEd 7 56 Tryz.underlying22 hi hz0 hz1 hz2 rfl (by omega) (.slice A m d) EN.length (cellsEs EN) rfl P5.out.ed ⟨ga, 0, none⟩ 1 1 (cellsEs [freeE 0 (p : Int)]) rfl rfl (RdE.cells (rde_row KA.out rfl)) (cellsEs_one _) (by omega) (by simp only [maxLen]; omega) (by omega) P5.out.low.size _ rfl ?_
          clear hb6
          intro q cap w3 ho3 hg3 hat3 hlt3
          have kz := P5.out.net1 hg3
          have qc := cell_of_row w3 W.heap.size 1 _ _ _ kz
          have qf := frozen_of_row w3 W.heap.size 1 _ _ kz
          have hS1 := (hg3.block gp (Array.getElem?_eq_some_iff.1 hHeld).1 (fun e => VG.out gp e.symm rfl)).trans hHeld
          have hP6 := P5.out.put (edge_append rfl [freeE 0 (p : Int)] rfl ho3) hg3 hat3
          have hS2 := (Below.heap_setCell w3 ⟨W.heap.size, 1, none⟩ (.slice (some ⟨q, 0, none⟩) (EN.length + 1) cap) gp (fun e => hgp e)).trans hS1
          clear hHeld
          refine hK.out _ _ hS1 (fun hHeld => ?_)
          clear hK K hS1 kz hg3 hat3 hlt3 ho3
          try simp only [zzA, zzB, zzC, Act.put, zzD, zzE, zzF]
          refine wpAnyH_take (i := 7) (v := ?vzsg67) rfl (by kernel_rfl) (by kernel_rfl) (by kernel_rfl) (fun _ _ _ h => h) (Or.inl ⟨by rfl, ?yzsg67⟩) hHeld ?rzsg67
          case yzsg67 => (intro wS hSw; clear hSw; go_simp; try (with_reducible rfl))
          try simp only [zzA, zzB, zzC, Act.put, zzD, zzE, zzF]
          refine wpAnyH_ready (rs := [8]) (by kernel_rfl) (by simp) (AllReadyH.cons rfl (fun K hK => ?_) AllReadyH.nil)
          clear hHeld
          go_simp
          refine hK.out _ _ hS2 (fun hHeld => ?_)
          clear hK K hS2 qc qf
          try simp only [zzA, zzB, zzC, Act.put, zzD, zzE, zzF]
          refine wpAnyH_done (by kernel_rfl) ?_ _
          clear hi hz0 hz1 hz2 KA VG P5
          obtain ⟨i0, hi, hz0, hz1, hz2⟩ := info_parts info_int
          generalize w3.setCell ⟨W.heap.size, 1, none⟩ (.slice (some ⟨q, 0, none⟩) (EN.length + 1) cap) = w7 at *
          have PE := Lib.hid hP6
          have c2 := cell_of_row w7 W.heap.size 2 _ _ _ hP6.net
          have cp := cell_of_row w7 gp 1 _ _ _ hHeld
          have P8 := hP6.then (bl_alloc (Below.refl _ w7) (.cells #[.int .i64 (p1 : Int)] 3))
          have hxl := HX.out
          clear hP6 hHeld
          go_upto_region 11 with (at_builtin; refine wpList_append_lies _ rfl _ _ 23 rfl W0.heap.size 3 i0 (.int .i64 0) 1 8 Tryz.underlying23 hi hz0 hz1 hz2 rfl (by decide) (.slice Ax nx cx) X.length (X.map nv) rfl P8.en ⟨w7.heap.size, 0, none⟩ 1 1 [.int .i64 (p1 : Int)] rfl rfl (one_row _ _ _) (by simp [Value.oneCell']) (by omega) (by simp only [maxLen]; omega) (by omega) P8.low.size _ rfl ?_; intro q2 cap2 w8 ho8 hg8 hat8 hlt8; have kz2 := P8.net2 hg8; have c22 := cell_of_row w8 W.heap.size 2 _ _ _ kz2; have f22 := frozen_of_row w8 W.heap.size 2 _ _ kz2)
          have ho9 : OwnI w8 W0.heap.size (.slice (some ⟨q2, 0, none⟩) (X.length + 1) cap2) (X ++ [p1]) := by
            unfold OwnI
            rw [List.length_append, List.length_singleton, List.map_append]
            exact ho8
          have PZ := P8.fin ho9 hg8 hat8
          clear ho8 ho9 hg8 hat8 hlt8 kz2 c22 f22 P8 PE c2 cp hi hz0 hz1 hz2
          generalize w8.setCell ⟨W.heap.size, 2, none⟩ (.slice (some ⟨q2, 0, none⟩) (X.length + 1) cap2) = w9 at *
          have LZ := Lib.hid (load_net w9 PZ.net)
          have kr := PZ.res
          have PZ2 := Lib.hid PZ
          clear PZ
          go_wp2_with (first | (refine wpList_load_part 25 3 _ rfl rfl ⟨W.heap.size, 0, none⟩ rfl [.int .i64 (p2 : Int), .slice (some ⟨q, 0, none⟩) (EN.length + 1) cap, .slice (some ⟨q2, 0, none⟩) (X.length + 1) cap2] (agg_net _) (sz_net _) rfl LZ.out ?_) | (refine wpList_store_row rfl 25 _ _ rfl (W.heap.size + 1) _ rfl rfl 25 _ kr (by rw [size_net]; rfl) (by rfl) (by simp [Value.oneCell']) ?_))
          refine bodyPost_ret (v := .agg #[.int .i64 (p2 : Int), .slice (some ⟨q, 0, none⟩) (EN.length + 1) cap, .slice (some ⟨q2, 0, none⟩) (X.length + 1) cap2]) (results_cell_row rfl _ _ (W.heap.size + 1) 25 _ (0, 0) _ rfl (setRow_heap w9 (W.heap.size + 1) _ #[.int .i64 (p2 : Int), .slice (some ⟨q, 0, none⟩) (EN.length + 1) cap, .slice (some ⟨q2, 0, none⟩) (X.length + 1) cap2] _ _ kr) Tryz.underlying25 rfl (by rw [size_net]; rfl)) rfl (post_is HQ ?_)
          obtain ⟨z1, z2, z3, z4, z5, z6, z7⟩ := PZ2.out.done #[.int .i64 (p2 : Int), .slice (some ⟨q, 0, none⟩) (EN.length + 1) cap, .slice (some ⟨q2, 0, none⟩) (X.length + 1) cap2]
          have e1 : S + 2 * L.length = p2 := by have := HP.out; have := HP1.out; have := HP2.out; have := HN.out; omega
          have e2 : S + 2 * (L.length - 1) = p := by have := HP.out; have := HN.out; omega
          unfold GotWp
          rw [e1, e2, HEN.out, HP1.out]
          exact ⟨_, _, _, _, _, _, rfl, z1, z2, z3, z4, z5, z6, z7⟩
        · skip
          have ka := heap_alloc_new v4 (.cells #[.int .i64 0, .int .i64 (p : Int), .int .u64 0, .int .u64 0, .int .u64 0, .int .u64 0, .bool true] 53)
          have P7 := Lib.hid (P4.out.then (bl_alloc (Below.refl _ v4) (.cells #[.int .i64 0, .int .i64 (p : Int), .int .u64 0, .int .u64 0, .int .u64 0, .int .u64 0, .bool true] 53)))
          have hS1 := (Below.heap_alloc v4 (.cells #[.int .i64 0, .int .i64 (p : Int), .int .u64 0, .int .u64 0, .int .u64 0, .int .u64 0, .bool true] 53) gp (Array.getElem?_eq_some_iff.1 hHeld).1).trans hHeld
          go_simp
          refine hK.out _ _ hS1 (fun hHeld => ?_)
          clear hK K hS1 P4
          generalize v4.alloc (.cells #[.int .i64 0, .int .i64 (p : Int), .int .u64 0, .int .u64 0, .int .u64 0, .int .u64 0, .bool true] 53) = v7 at *
          generalize v4.heap.size = ga at *
          have KA := Lib.hid ka
          clear ka
          try simp only [zzA, zzB, zzC, Act.put, zzD, zzE, zzF]
          refine wpAnyH_ready (rs := [1]) (by kernel_rfl) (by simp) (AllReadyH.cons rfl (fun K hK => ?_) AllReadyH.nil)
          have qc := cell_of_row v7 W.heap.size 1 _ _ _ P7.out.net
          go_simp
          refine hK.out _ _ hHeld (fun hHeld => ?_)
          clear hK K qc
          try simp only [zzA, zzB, zzC, Act.put, zzD, zzE, zzF]
          refine wpAnyH_ready (rs := [6]) (by kernel_rfl) (by simp) (AllReadyH.cons rfl (fun K hK => ?_) AllReadyH.nil)
          rw [if_pos (by rfl)]
          have hb6 := HLEN.out
          refine wp_append_lies _ _ _ 22 rfl W0.heap.size 53 i0 zeroEd 7 56 Tryz.underlying22 hi hz0 hz1 hz2 rfl (by omega) (.slice A m d) EN.length (cellsEs EN) rfl P7.out.ed ⟨ga, 0, none⟩ 1 1 (cellsEs [freeE 0 (p : Int)]) rfl rfl (RdE.cells (rde_row KA.out rfl)) (cellsEs_one _) (by omega) (by simp only [maxLen]; omega) (by omega) P7.out.low.size _ rfl ?_
          clear hb6
          intro q cap w3 ho3 hg3 hat3 hlt3
          have kz := P7.out.net1 hg3
          have qc := cell_of_row w3 W.heap.size 1 _ _ _ kz
          have qf := frozen_of_row w3 W.heap.size 1 _ _ kz
          have hS1 := (hg3.block gp (Array.getElem?_eq_some_iff.1 hHeld).1 (fun e => VG.out gp e.symm rfl)).trans hHeld
          have hP6 := P7.out.put (edge_append rfl [freeE 0 (p : Int)] rfl ho3) hg3 hat3
          have hS2 := (Below.heap_setCell w3 ⟨W.heap.size, 1, none⟩ (.slice (some ⟨q, 0, none⟩) (EN.length + 1) cap) gp (fun e => hgp e)).trans hS1
          clear hHeld
          refine hK.out _ _ hS1 (fun hHeld => ?_)
          clear hK K hS1 kz hg3 hat3 hlt3 ho3
          try simp only [zzA, zzB, zzC, Act.put, zzD, zzE, zzF]
          refine wpAnyH_take (i := 7) (v := ?vzsi87) rfl (by kernel_rfl) (by kernel_rfl) (by kernel_rfl) (fun _ _ _ h => h) (Or.inl ⟨by rfl, ?yzsi87⟩) hHeld ?rzsi87
          case yzsi87 => (intro wS hSw; clear hSw; go_simp; try (with_reducible rfl))
          try simp only [zzA, zzB, zzC, Act.put, zzD, zzE, zzF]
          refine wpAnyH_ready (rs := [8]) (by kernel_rfl) (by simp) (AllReadyH.cons rfl (fun K hK => ?_) AllReadyH.nil)
          clear hHeld
          go_simp
          refine hK.out _ _ hS2 (fun hHeld => ?_)
          clear hK K hS2 qc qf
          try simp only [zzA, zzB, zzC, Act.put, zzD, zzE, zzF]
          refine wpAnyH_done (by kernel_rfl) ?_ _
          clear hi hz0 hz1 hz2 KA VG P7
          obtain ⟨i0, hi, hz0, hz1, hz2⟩ := info_parts info_int
          generalize w3.setCell ⟨W.heap.size, 1, none⟩ (.slice (some ⟨q, 0, none⟩) (EN.length + 1) cap) = w7 at *
          have PE := Lib.hid hP6
          have c2 := cell_of_row w7 W.heap.size 2 _ _ _ hP6.net
          have cp := cell_of_row w7 gp 1 _ _ _ hHeld
          have P8 := hP6.then (bl_alloc (Below.refl _ w7) (.cells #[.int .i64 (p1 : Int)] 3))
          have hxl := HX.out
          clear hP6 hHeld
          go_upto_region 11 with (at_builtin; refine wpList_append_lies _ rfl _ _ 23 rfl W0.heap.size 3 i0 (.int .i64 0) 1 8 Tryz.underlying23 hi hz0 hz1 hz2 rfl (by decide) (.slice Ax nx cx) X.length (X.map nv) rfl P8.en ⟨w7.heap.size, 0, none⟩ 1 1 [.int .i64 (p1 : Int)] rfl rfl (one_row _ _ _) (by simp [Value.oneCell']) (by omega) (by simp only [maxLen]; omega) (by omega) P8.low.size _ rfl ?_; intro q2 cap2 w8 ho8 hg8 hat8 hlt8; have kz2 := P8.net2 hg8; have c22 := cell_of_row w8 W.heap.size 2 _ _ _ kz2; have f22 := frozen_of_row w8 W.heap.size 2 _ _ kz2)
          have ho9 : OwnI w8 W0.heap.size (.slice (some ⟨q2, 0, none⟩) (X.length + 1) cap2) (X ++ [p1]) := by
            unfold OwnI
            rw [List.length_append, List.length_singleton, List.map_append]
            exact ho8
          have PZ := P8.fin ho9 hg8 hat8
          clear ho8 ho9 hg8 hat8 hlt8 kz2 c22 f22 P8 PE c2 cp hi hz0 hz1 hz2
          generalize w8.setCell ⟨W.heap.size, 2, none⟩ (.slice (some ⟨q2, 0, none⟩) (X.length + 1) cap2) = w9 at *
          have LZ := Lib.hid (load_net w9 PZ.net)
          have kr := PZ.res
          have PZ2 := Lib.hid PZ
          clear PZ
          go_wp2_with (first | (refine wpList_load_part 25 3 _ rfl rfl ⟨W.heap.size, 0, none⟩ rfl [.int .i64 (p2 : Int), .slice (some ⟨q, 0, none⟩) (EN.length + 1) cap, .slice (some ⟨q2, 0, none⟩) (X.length + 1) cap2] (agg_net _) (sz_net _) rfl LZ.out ?_) | (refine wpList_store_row rfl 25 _ _ rfl (W.heap.size + 1) _ rfl rfl 25 _ kr (by rw [size_net]; rfl) (by rfl) (by simp [Value.oneCell']) ?_))
          refine bodyPost_ret (v := .agg #[.int .i64 (p2 : Int), .slice (some ⟨q, 0, none⟩) (EN.length + 1) cap, .slice (some ⟨q2, 0, none⟩) (X.length + 1) cap2]) (results_cell_row rfl _ _ (W.heap.size + 1) 25 _ (0, 0) _ rfl (setRow_heap w9 (W.heap.size + 1) _ #[.int .i64 (p2 : Int), .slice (some ⟨q, 0, none⟩) (EN.length + 1) cap, .slice (some ⟨q2, 0, none⟩) (X.length + 1) cap2] _ _ kr) Tryz.underlying25 rfl (by rw [size_net]; rfl)) rfl (post_is HQ ?_)
          obtain ⟨z1, z2, z3, z4, z5, z6, z7⟩ := PZ2.out.done #[.int .i64 (p2 : Int), .slice (some ⟨q, 0, none⟩) (EN.length + 1) cap, .slice (some ⟨q2, 0, none⟩) (X.length + 1) cap2]
          have e1 : S + 2 * L.length = p2 := by have := HP.out; have := HP1.out; have := HP2.out; have := HN.out; omega
          have e2 : S + 2 * (L.length - 1) = p := by have := HP.out; have := HN.out; omega
          unfold GotWp
          rw [e1, e2, HEN.out, HP1.out]
          exact ⟨_, _, _, _, _, _, rfl, z1, z2, z3, z4, z5, z6, z7⟩

end Go.Proofs.YtcgfogdfcdndgaaGreatDoor

/- Of, as it is called. -/
set_option linter.unusedVariables false
set_option linter.unusedSimpArgs false
namespace Go.Proofs.YtcgfogdfcdndgaaGreatDoor
open Go.RowKit
attribute [local go_sem] Oper.semAt_some

/-- A slice of patterns. -/
def RdX (w : World) (A : Option Addr) (Ls : List (List RN)) : Prop := ∀ i (h : i < Ls.length), ∃ ad B m d, A = some ad ∧ w.cell? (ad.add i) = some (.slice B m d) ∧ Ls[i].length = m ∧ m ≤ d ∧ RdR w B Ls[i]
theorem RdX.below {w w' : World} {A : Option Addr} {Ls : List (List RN)} (h : RdX w A Ls) (hb : Below w.heap.size w w') : RdX w' A Ls := fun i hi => by
  obtain ⟨ad, B, m, d, e, hc, h1, h2, h3⟩ := h i hi
  exact ⟨ad, B, m, d, e, (hb.cell (World.block_lt_of_cell? w _ hc)).trans hc, h1, h2, h3.below hb⟩
def firstErr : List (List RN) → Nat
  | [] => 0
  | l :: t => if checkE l ≠ 0 then checkE l else firstErr t
def sizesOf (Ls : List (List RN)) : Nat := (Ls.map (·.length)).sum
def netS (Ls : List (List RN)) : Nat := 1 + 2 * sizesOf Ls
def netE : Nat → List (List RN) → List Ed
  | _, [] => []
  | S, l :: t => nodesE (S : Int) l 0 ++ [freeE 0 ((S + 2 * (l.length - 1) : Nat) : Int)] ++ netE (S + 2 * l.length) t
def netX : Nat → List (List RN) → List Nat
  | _, [] => []
  | S, l :: t => (S + 2 * (l.length - 1) + 1) :: netX (S + 2 * l.length) t
def ofN (Ls : List (List RN)) : Nat := if 64 < Ls.length then 5 else if firstErr Ls ≠ 0 then firstErr Ls else if 2048 < netS Ls then 5 else 0
def GotOf (W : World) (Ls : List (List RN)) (e : Ending) (W' : World) : Prop :=
  ∃ S A n c A2 n2 c2, e = .returned (.tuple #[.agg #[.int .i64 (S : Int), .slice A n c, .slice A2 n2 c2], .int .i64 ((ofN Ls : Nat) : Int)]) ∧ OwnE W' W.heap.size (.slice A n c) (if ofN Ls = 0 then netE 1 Ls else []) ∧ OwnI W' W.heap.size (.slice A2 n2 c2) (if ofN Ls = 0 then netX 1 Ls else []) ∧ S = (if ofN Ls = 0 then netS Ls else 0) ∧ Below W.heap.size W W'
theorem sizes_next (Ls : List (List RN)) (k : Nat) (hk : k < Ls.length) : sizesOf (Ls.take (k + 1)) = sizesOf (Ls.take k) + Ls[k].length := by
  unfold sizesOf
  rw [List.take_succ_eq_append_getElem hk, List.map_append, List.sum_append]
  simp
theorem nete_next : ∀ (Ls : List (List RN)) (S k : Nat) (hk : k < Ls.length), netE S (Ls.take (k + 1)) = netE S (Ls.take k) ++ nodesE ((S + 2 * sizesOf (Ls.take k) : Nat) : Int) Ls[k] 0 ++ [freeE 0 ((S + 2 * sizesOf (Ls.take k) + 2 * (Ls[k].length - 1) : Nat) : Int)]
  | l :: t, S, 0, _ => by simp [netE, sizesOf]
  | l :: t, S, k + 1, h => by
    have h2 : sizesOf (l :: t.take k) = l.length + sizesOf (t.take k) := rfl
    rw [List.take_succ_cons, netE, nete_next t _ k (by simpa using h), List.take_succ_cons, netE, h2, show S + 2 * l.length + 2 * sizesOf (t.take k) = S + 2 * (l.length + sizesOf (t.take k)) by omega]
    simp only [List.append_assoc, List.getElem_cons_succ]
theorem netx_next : ∀ (Ls : List (List RN)) (S k : Nat) (hk : k < Ls.length), netX S (Ls.take (k + 1)) = netX S (Ls.take k) ++ [S + 2 * sizesOf (Ls.take k) + 2 * (Ls[k].length - 1) + 1]
  | l :: t, S, 0, _ => by simp [netX, sizesOf]
  | l :: t, S, k + 1, h => by
    have h2 : sizesOf (l :: t.take k) = l.length + sizesOf (t.take k) := rfl
    rw [List.take_succ_cons, netX, netx_next t _ k (by simpa using h), List.take_succ_cons, netX, h2, show S + 2 * l.length + 2 * sizesOf (t.take k) = S + 2 * (l.length + sizesOf (t.take k)) by omega]
    simp
theorem nete_len : ∀ (Ls : List (List RN)) (S : Nat), (netE S Ls).length ≤ 4 * sizesOf Ls + Ls.length
  | [], _ => Nat.zero_le _
  | l :: t, S => by
    have h1 := nodes_len (S : Int) l 0
    have h2 := nete_len t (S + 2 * l.length)
    have h3 : sizesOf (l :: t) = l.length + sizesOf t := rfl
    rw [netE, List.length_append, List.length_append, List.length_singleton, List.length_cons, h3]
    omega
theorem netx_len : ∀ (Ls : List (List RN)) (S : Nat), (netX S Ls).length = Ls.length
  | [], _ => rfl
  | l :: t, S => by rw [netX, List.length_cons, List.length_cons, netx_len t]
theorem first_at : ∀ (Ls : List (List RN)) (k : Nat) (hk : k < Ls.length), firstErr (Ls.take k) = 0 → checkE Ls[k] ≠ 0 → firstErr Ls = checkE Ls[k]
  | l :: t, 0, _, _, h => by rw [firstErr, if_pos (show checkE l ≠ 0 from h)]; rfl
  | l :: t, k + 1, hk, h1, h2 => by
    rw [List.take_succ_cons, firstErr] at h1
    by_cases hc : checkE l ≠ 0
    · rw [if_pos hc] at h1; exact absurd h1 hc
    · rw [if_neg hc] at h1
      rw [firstErr, if_neg hc]
      exact first_at t k (by simpa using hk) h1 h2
theorem first_next (Ls : List (List RN)) (k : Nat) (hk : k < Ls.length) (h1 : firstErr (Ls.take k) = 0) (h2 : checkE Ls[k] = 0) : firstErr (Ls.take (k + 1)) = 0 := by
  by_cases hne : firstErr (Ls.take (k + 1)) = 0
  · exact hne
  · have h3 : ∀ (M : List (List RN)) (x : List RN), firstErr M = 0 → checkE x = 0 → firstErr (M ++ [x]) = 0 := fun M => by
      induction M with
      | nil => intro x _ hx; rw [List.nil_append, firstErr, if_neg (by rw [hx]; simp)]; rfl
      | cons y M ih =>
        intro x hM hx
        rw [firstErr] at hM
        by_cases hc : checkE y ≠ 0
        · rw [if_pos hc] at hM; exact absurd hM hc
        · rw [if_neg hc] at hM
          rw [List.cons_append, firstErr, if_neg hc]
          exact ih x hM hx
    rw [List.take_succ_eq_append_getElem hk]
    exact h3 _ _ h1 h2
theorem first_all : ∀ (Ls : List (List RN)), firstErr Ls = 0 → ∀ i (h : i < Ls.length), checkE Ls[i] = 0
  | l :: t, h, i, hi => by
    rw [firstErr] at h
    by_cases hc : checkE l ≠ 0
    · rw [if_pos hc] at h; exact absurd h hc
    · rw [if_neg hc] at h
      match i, hi with
      | 0, _ => exact Decidable.not_not.1 hc
      | i + 1, hi => exact first_all t h i (by simpa using hi)
theorem tree_bounds {l : List RN} (h : checkE l = 0) : 1 ≤ l.length ∧ l.length ≤ 256 ∧ ∀ i (hi : i < l.length), 0 ≤ l[i].a ∧ l[i].a ≤ 1000 ∧ 0 ≤ l[i].b ∧ l[i].b ≤ 1000 := by
  obtain ⟨h1, h2⟩ := check_zero h
  obtain ⟨t, rfl⟩ := flat_of_tree l h2
  rw [flat_len] at h1
  have hp := t.size_pos
  refine ⟨by rw [flat_len]; exact hp, by rw [flat_len]; exact h1, fun i hi => ?_⟩
  have := flat_ab t 0 _ (List.getElem_mem hi)
  omega
theorem agg_rex' (w : World) : (isAgg 88).run Tryz.prog w = .ok true w := by kernel_rfl
theorem sz_rex' (w : World) : (sizeOf 88).run Tryz.prog w = .ok 1 w := by kernel_rfl
theorem built_net0 : Tryz.prog.built 25 [] = some #[.int .i64 0, .slice none 0 0, .slice none 0 0] := by kernel_rfl
theorem built_net1 : Tryz.prog.built 25 [(0, Value.int .i64 1)] = some #[.int .i64 1, .slice none 0 0, .slice none 0 0] := by kernel_rfl

end Go.Proofs.YtcgfogdfcdndgaaGreatDoor

/- Of: the walk. -/
set_option linter.unusedVariables false
set_option linter.unusedSimpArgs false
namespace Go.Proofs.YtcgfogdfcdndgaaGreatDoor
open Go.RowKit
attribute [local go_sem] Oper.semAt_some

theorem of_results (tmps : Array Value) (W : World) (a : Nat) (x : Int) (v u : Value) (n : Int) (h2 : tmps.getD 2 undef = .pointer (some ⟨a, 0, none⟩)) (h3 : tmps.getD 3 undef = .int .i64 n)
    (hk : W.heap[a]? = some (.cells #[.int .i64 x, v, u] 25 (0, 0))) :
    (results Tryz.f51 tmps).run Tryz.prog W = .ok (.tuple #[.agg #[.int .i64 x, v, u], .int .i64 n]) W := by
  have g2 : tmps[2]?.getD undef = .pointer (some ⟨a, 0, none⟩) := by simpa using h2
  have g3 : tmps[3]?.getD undef = .int .i64 n := by simpa using h3
  have c0 := cell_of_row W a 0 _ _ _ hk
  have c1 := cell_of_row W a 1 _ _ _ hk
  have c2 := cell_of_row W a 2 _ _ _ hk
  simp [results, Tryz.results51, go_sem, g2, g3, c0, c1, c2]
theorem sizes_le : ∀ (Ls : List (List RN)) (k : Nat), sizesOf (Ls.take k) ≤ sizesOf Ls
  | [], k => by rw [List.take_nil]; exact Nat.le_refl _
  | l :: t, 0 => Nat.zero_le _
  | l :: t, k + 1 => by rw [List.take_succ_cons]; exact Nat.add_le_add_left (sizes_le t k) _
/-- Of's boxes while it puts patterns behind each other. -/
structure OfS (W : World) (g8 S : Nat) (E : List Ed) (X : List Nat) (v vx : Value) (wr : World) : Prop where
  net : wr.heap[g8]? = some (.cells #[.int .i64 (S : Int), v, vx] 25 (0, 0))
  res : wr.heap[W.heap.size]? = some (.cells #[.int .i64 0, .slice none 0 0, .slice none 0 0] 25 (0, 0))
  ed : OwnE wr W.heap.size v E
  en : OwnI wr W.heap.size vx X
  nv : v.ownBlock ≠ some g8 ∧ v.ownBlock ≠ some W.heap.size
  nx : vx.ownBlock ≠ some g8 ∧ vx.ownBlock ≠ some W.heap.size
  low : Below W.heap.size W wr
  ne : W.heap.size < g8
theorem OfS.then {W wr w1 : World} {g8 S : Nat} {E : List Ed} {X : List Nat} {v vx : Value} (h : OfS W g8 S E X v vx wr) (hb : Below wr.heap.size wr w1) : OfS W g8 S E X v vx w1 :=
  ⟨(hb.block _ (Array.getElem?_eq_some_iff.1 h.net).1).trans h.net, (hb.block _ (Array.getElem?_eq_some_iff.1 h.res).1).trans h.res, World.ownsRow.kept h.ed (grown_of_below hb none) (by cases v.ownBlock <;> simp), h.en.below hb, h.nv, h.nx, bl_trans h.low hb, h.ne⟩
theorem OfS.step {W wr w1 : World} {g8 S S' : Nat} {E E' : List Ed} {X X' : List Nat} {v vx v' vx' : Value} (h : OfS W g8 S E X v vx wr) (h1 : OwnE w1 W.heap.size v' E') (h2 : OwnI w1 W.heap.size vx' X')
    (h3 : ∀ i, v'.ownBlock = some i → v.ownBlock = some i ∨ wr.heap.size ≤ i) (h4 : ∀ i, vx'.ownBlock = some i → vx.ownBlock = some i ∨ wr.heap.size ≤ i) (h5 : wr.heap.size ≤ w1.heap.size) (h6 : ∀ i, i < wr.heap.size → v.ownBlock ≠ some i → vx.ownBlock ≠ some i → w1.heap[i]? = wr.heap[i]?) (h7 : Below W.heap.size W w1) :
    w1.heap[g8]? = some (.cells #[.int .i64 (S : Int), v, vx] 25 (0, 0)) ∧ OfS W g8 S' E' X' v' vx' (w1.setRow g8 #[.int .i64 (S' : Int), v', vx']) := by
  have hl := (Array.getElem?_eq_some_iff.1 h.net).1
  have hl2 := (Array.getElem?_eq_some_iff.1 h.res).1
  have hne := h.ne
  have k1 := (h6 g8 hl h.nv.1 h.nx.1).trans h.net
  have k2 := (h6 W.heap.size hl2 h.nv.2 h.nx.2).trans h.res
  have hg : w1.grownBy (w1.setRow g8 #[.int .i64 (S' : Int), v', vx']) (some g8) := ⟨rfl, rfl, rfl, by simp, fun j hj hne => setRow_other _ _ _ _ (fun e => hne (by rw [e]))⟩
  have n1 : v'.ownBlock ≠ some g8 ∧ v'.ownBlock ≠ some W.heap.size := ⟨fun e => by rcases h3 _ e with e1 | e1; exact h.nv.1 e1; omega, fun e => by rcases h3 _ e with e1 | e1; exact h.nv.2 e1; omega⟩
  have n2 : vx'.ownBlock ≠ some g8 ∧ vx'.ownBlock ≠ some W.heap.size := ⟨fun e => by rcases h4 _ e with e1 | e1; exact h.nx.1 e1; omega, fun e => by rcases h4 _ e with e1 | e1; exact h.nx.2 e1; omega⟩
  refine ⟨k1, setRow_heap w1 g8 _ #[.int .i64 (S' : Int), v', vx'] _ _ k1, (setRow_other _ _ _ _ (by omega)).trans k2, World.ownsRow.kept h1 hg (Or.inr n1.1), World.ownsRow.kept h2 hg (Or.inr n2.1), n1, n2, bl_setRow h7 (by omega) _, hne⟩
set_option maxRecDepth 100000 in
set_option maxHeartbeats 16000000 in
theorem of_all (Ls : List (List RN)) (A : Option Addr) (n c : Nat) (hn : Ls.length = n) (hn2 : n ≤ 140737488355328) (W : World) (hr : RdX W A Ls) :
    Calls Tryz.prog 51 #[.slice A n c] W (GotOf W Ls) := by
  generalize hQ : GotOf W Ls = Q
  have HQ := Lib.hid hQ
  have k0 := heap_alloc_new W (.cells #[.int .i64 0, .slice none 0 0, .slice none 0 0] 25)
  have b0 := bl_alloc (Below.refl W.heap.size W) (.cells #[.int .i64 0, .slice none 0 0, .slice none 0 0] 25)
  have bu0 := built_net0
  have bu1 := built_net1
  have HR := Lib.hid hr
  have HN := Lib.hid hn
  clear hQ hr hn
  go_enter Tryz.func51, Tryz.ntmps51
  go_upto_region 1 with fail
  generalize W.alloc (.cells #[.int .i64 0, .slice none 0 0, .slice none 0 0] 25) = w0 at *
  have K0 := Lib.hid k0
  have B0 := Lib.hid b0
  clear b0
  by_cases hbig : 64 < n
  · have hbi : (64 : Int) < (n : Int) := by omega
    have HO := Lib.hid (show ofN Ls = 5 from by rw [ofN, HN.out, if_pos hbig])
    go_wp2_with (refine wpList_store_row rfl 25 _ _ rfl W.heap.size _ rfl rfl 25 _ K0.out (by rw [size_net]; rfl) (by rfl) (by simp [Value.oneCell']) ?_)
    refine bodyPost_ret (of_results _ _ W.heap.size 0 (.slice none 0 0) (.slice none 0 0) 5 rfl rfl (setRow_heap w0 W.heap.size _ #[.int .i64 0, .slice none 0 0, .slice none 0 0] _ _ K0.out)) rfl (post_is HQ ?_)
    unfold GotOf
    rw [HO.out]
    exact ⟨0, none, 0, 0, none, 0, 0, rfl, OwnE.nil _ _, OwnI.nil _ _, rfl, bl_setRow B0.out (Nat.le_refl _) _⟩
  have hbi : ¬ (64 : Int) < (n : Int) := by omega
  clear k0
  go_wp2_with fail
  go_loopw [4, 17] (fun v4 vi wr => ∃ k : Nat, k ≤ n ∧ v4 = .int .i64 ((1 + 2 * sizesOf (Ls.take k) : Nat) : Int) ∧ vi = .int .i64 (k : Int) ∧ Hid (firstErr (Ls.take k) = 0) ∧ Hid (sizesOf (Ls.take k) ≤ 256 * k) ∧ Hid (Below w0.heap.size w0 wr)) (fun _ vi _ => n - (intOf vi).toNat)
  case atStart => exact ⟨0, Nat.zero_le _, rfl, rfl, rfl, Nat.le_refl _, Below.refl _ _⟩
  case round =>
    obtain ⟨k, hk, rfl, rfl, HF, HS, BW⟩ := hrel
    have KW := Lib.hid ((BW.out.block W.heap.size (Array.getElem?_eq_some_iff.1 K0.out).1).trans K0.out)
    have BR := Lib.hid (bl_trans B0.out BW.out)
    by_cases hlt : k < n
    · have hkl : k < Ls.length := by rw [HN.out]; exact hlt
      obtain ⟨ad, B, m, d, hA, hc, hm, hmd, hrr⟩ := (HR.out.below BR.out) k hkl
      subst hA
      have HM := Lib.hid hm
      have HRR := Lib.hid hrr
      have HSZ := Lib.hid (sizes_next Ls k hkl)
      have HFA := Lib.hid (first_at Ls k hkl HF.out)
      have HFN := Lib.hid (first_next Ls k hkl HF.out)
      have HTB := Lib.hid (show checkE Ls[k] = 0 → 1 ≤ Ls[k].length ∧ Ls[k].length ≤ 256 from fun h => ⟨(tree_bounds h).1, (tree_bounds h).2.1⟩)
      have HSB := Lib.hid (show ∀ i (h : i < Ls.length), i < k → checkE Ls[i] = 0 from fun i h hi => by
        have h2 := first_all (Ls.take k) HF.out i (by rw [List.length_take]; omega)
        rwa [List.getElem_take] at h2)
      generalize hl : Ls[k] = l at *
      clear hl hm hrr
      have LX := Lib.hid (show ∀ j u, [Value.slice B m d][j]? = some u → wr.cell? ((ad.add k).add j) = some u from fun j u hu => by
        match j, hu with
        | 0, hu =>
          simp at hu
          subst hu
          rw [Addr.add_add]
          exact hc)
      go_upto_region 7 with (refine wpList_load_part 88 1 _ rfl rfl (ad.add k) rfl [.slice B m d] (agg_rex' _) (sz_rex' _) rfl LX.out ?_)
      have kx := heap_alloc_new wr (.cells #[.slice B m d] 88)
      have bx := bl_alloc (Below.refl wr.heap.size wr) (.cells #[.slice B m d] 88)
      have HR1 := Lib.hid (HRR.out.below bx)
      have BW1 := Lib.hid (bl_trans BW.out bx)
      clear bx
      generalize wr.alloc (.cells #[.slice B m d] 88) = w1 at *
      generalize hg6 : wr.heap.size = g6 at *
      have qx := cell_of_row w1 g6 0 _ _ _ kx
      have LX2 := Lib.hid (show ∀ j u, [Value.slice B m d][j]? = some u → w1.cell? ((⟨g6, 0, none⟩ : Addr).add j) = some u from fun j u hu => by
        rw [addr_mk, Nat.zero_add, cell_of_row w1 g6 j _ _ _ kx]
        simpa using hu)
      go_wp2_with (refine wpList_load_part 88 1 _ rfl rfl ⟨g6, 0, none⟩ rfl [.slice B m d] (agg_rex' _) (sz_rex' _) rfl LX2.out ?_)
      refine (check_any l B m d HM.out w1 HR1.out hmd).mono ?_
      rintro e w2 ⟨rfl, hb2⟩
      have kx2 := (hb2.block g6 (Array.getElem?_eq_some_iff.1 kx).1).trans kx
      have B2 := Lib.hid (bl_trans BW1.out hb2)
      have K2 := Lib.hid ((B2.out.block W.heap.size (Array.getElem?_eq_some_iff.1 K0.out).1).trans K0.out)
      clear hb2 kx qx LX LX2 KW BW BR hg6 HR1 BW1 HRR
      by_cases hce : ¬ checkE l = 0
      · have HO := Lib.hid (show ofN Ls = checkE l from by rw [ofN, HN.out, if_neg hbig, HFA.out hce, if_pos hce])
        generalize checkE l = ce at *
        have hce' : ((ce : Int) == 0) = false := by simp; omega
        go_wp2_with (refine wpList_store_row rfl 25 _ _ rfl W.heap.size _ rfl rfl 25 _ K2.out (by rw [size_net]; rfl) (by rfl) (by simp [Value.oneCell']) ?_)
        refine bodyPost_ret (of_results _ _ W.heap.size 0 (.slice none 0 0) (.slice none 0 0) (ce : Int) rfl rfl (setRow_heap w2 W.heap.size _ #[.int .i64 0, .slice none 0 0, .slice none 0 0] _ _ K2.out)) rfl (post_is HQ ?_)
        unfold GotOf
        rw [HO.out, if_neg hce, if_neg hce, if_neg hce]
        exact ⟨0, none, 0, 0, none, 0, 0, rfl, OwnE.nil _ _, OwnI.nil _ _, rfl, bl_setRow (bl_trans B0.out B2.out) (Nat.le_refl _) _⟩
      · rw [Decidable.not_not] at hce
        have HFN2 := Lib.hid (HFN.out hce)
        have hml := (HTB.out hce).2
        rw [HM.out] at hml
        have HSN := HSZ.out
        rw [HM.out] at HSN
        have HSN := Lib.hid HSN
        have hs1 := HS.out
        rw [hce]
        clear hce HFA HFN HTB HSZ
        generalize sizesOf (Ls.take k) = sk at *
        have hw1 : IntKind.i64.wrap (2 * (m : Int)) = 2 * (m : Int) := IntWalk.i64_in _ (by omega)
        have hw2 : IntKind.i64.wrap (1 + 2 * (sk : Int) + 2 * (m : Int)) = 1 + 2 * (sk : Int) + 2 * (m : Int) := IntWalk.i64_in _ (by omega)
        have q6 := cell_of_row w2 g6 0 _ _ _ kx2
        go_wp2_with fail
        refine ⟨⟨k + 1, by omega, ?_, by go_num, HFN2, ?_, B2⟩, by simp [intOf]; omega⟩
        · rw [HSN.out]
          congr 1
          omega
        · rw [HSN.out]
          have := Lib.hid hs1
          exact (by omega : sk + m ≤ 256 * (k + 1))
    · obtain rfl : k = n := by omega
      rw [show Ls.take k = Ls from List.take_of_length_le (by rw [HN.out]; exact Nat.le_refl _)] at HF HS ⊢
      have hsz := HS.out
      have HNS := Lib.hid (show netS Ls = 1 + 2 * sizesOf Ls from rfl)
      generalize hsk : sizesOf Ls = sk at *
      have HSK := Lib.hid hsk
      clear hsk
      by_cases hmany : 1024 ≤ sk
      · have hmi : (2048 : Int) < 1 + 2 * (sk : Int) := by omega
        have HO := Lib.hid (show ofN Ls = 5 from by rw [ofN, HN.out, if_neg hbig, if_neg (by rw [HF.out]; simp), if_pos (by rw [HNS.out]; omega)])
        go_wp2_with (refine wpList_store_row rfl 25 _ _ rfl W.heap.size _ rfl rfl 25 _ KW.out (by rw [size_net]; rfl) (by rfl) (by simp [Value.oneCell']) ?_)
        refine bodyPost_ret (of_results _ _ W.heap.size 0 (.slice none 0 0) (.slice none 0 0) 5 rfl rfl (setRow_heap wr W.heap.size _ #[.int .i64 0, .slice none 0 0, .slice none 0 0] _ _ KW.out)) rfl (post_is HQ ?_)
        unfold GotOf
        rw [HO.out]
        exact ⟨0, none, 0, 0, none, 0, 0, rfl, OwnE.nil _ _, OwnI.nil _ _, rfl, bl_setRow BR.out (Nat.le_refl _) _⟩
      have hmi : ¬ (2048 : Int) < 1 + 2 * (sk : Int) := by omega
      have HO := Lib.hid (show ofN Ls = 0 from by rw [ofN, HN.out, if_neg hbig, if_neg (by rw [HF.out]; simp), if_neg (by rw [HNS.out]; omega)])
      have HCK := Lib.hid (first_all Ls HF.out)
      have HLW := Lib.hid (Array.getElem?_eq_some_iff.1 KW.out).1
      have k8 := heap_alloc_new wr (.cells #[.int .i64 1, .slice none 0 0, .slice none 0 0] 25)
      have b8 := bl_alloc (Below.refl wr.heap.size wr) (.cells #[.int .i64 1, .slice none 0 0, .slice none 0 0] 25)
      have O0 := Lib.hid (show OfS W wr.heap.size 1 [] [] (.slice none 0 0) (.slice none 0 0) (wr.alloc (.cells #[.int .i64 1, .slice none 0 0, .slice none 0 0] 25)) from
        ⟨k8, (b8.block _ HLW.out).trans KW.out, OwnE.nil _ _, OwnI.nil _ _, ⟨by simp [Value.ownBlock], by simp [Value.ownBlock]⟩, ⟨by simp [Value.ownBlock], by simp [Value.ownBlock]⟩, bl_trans BR.out b8, HLW.out⟩)
      go_upto_region 15 with fail
      clear k8 b8 bu0 bu1 BW
      generalize wr.alloc (.cells #[.int .i64 1, .slice none 0 0, .slice none 0 0] 25) = w8 at *
      generalize wr.heap.size = g8 at *
      go_wp2_with fail
      go_loopw [40] (fun vi wr => ∃ (j : Nat) (A1 A2 : Option Addr) (n1 c1 n2 c2 : Nat), j ≤ k ∧ vi = .int .i64 (j : Int) ∧ Hid (OfS W g8 (1 + 2 * sizesOf (Ls.take j)) (netE 1 (Ls.take j)) (netX 1 (Ls.take j)) (.slice A1 n1 c1) (.slice A2 n2 c2) wr) ∧ Hid (sizesOf (Ls.take j) ≤ 256 * j)) (fun vi _ => k - (intOf vi).toNat)
      case atStart => exact ⟨0, none, none, 0, 0, 0, 0, Nat.zero_le _, rfl, O0, Nat.zero_le _⟩
      case round =>
        obtain ⟨j, A1, A2, n1, c1, n2, c2, hj, rfl, OS, HS2⟩ := hrel
        clear O0
        by_cases hlj : j < k
        · have hjl : j < Ls.length := by rw [HN.out]; exact hlj
          obtain ⟨ad, B, m, d, hA, hc, hm, hmd, hrr⟩ := HR.out j hjl
          subst hA
          obtain ⟨tb1, tb2, tb3⟩ := tree_bounds (HCK.out j hjl)
          have HTB := Lib.hid tb3
          have HM := Lib.hid hm
          have HRR := Lib.hid hrr
          have HSZ := Lib.hid (sizes_next Ls j hjl)
          have HNE := Lib.hid (nete_next Ls 1 j hjl)
          have HNX := Lib.hid (netx_next Ls 1 j hjl)
          have HEL := Lib.hid (nete_len (Ls.take j) 1)
          have HXL := Lib.hid (netx_len (Ls.take j) 1)
          have htl : (Ls.take j).length ≤ 64 := by rw [List.length_take]; omega
          generalize Ls[j] = l at *
          rw [hm] at tb1 tb2
          clear hm hrr tb3
          have hs2 := HS2.out
          have hs3 := sizes_le Ls j
          rw [HSK.out] at hs3
          have LX := Lib.hid (show ∀ q u, [Value.slice B m d][q]? = some u → wr.cell? ((ad.add j).add q) = some u from fun q u hu => by
            match q, hu with
            | 0, hu =>
              simp at hu
              subst hu
              rw [Addr.add_add]
              exact (OS.out.low.cell (World.block_lt_of_cell? W _ hc)).trans hc)
          clear hc
          go_upto_region 18 with (refine wpList_load_part 88 1 _ rfl rfl (ad.add j) rfl [.slice B m d] (agg_rex' _) (sz_rex' _) rfl LX.out ?_)
          have O1 := OS.out.then (bl_alloc (Below.refl _ wr) (.cells #[.slice B m d] 88))
          have kx := heap_alloc_new wr (.cells #[.slice B m d] 88)
          clear LX OS
          generalize wr.alloc (.cells #[.slice B m d] 88) = w9 at *
          generalize wr.heap.size = g10 at *
          have qx := cell_of_row w9 g10 0 _ _ _ kx
          have ELB := HEL.out
          have XLB := HXL.out
          have HW := Lib.hid (with_any (1 + 2 * sizesOf (Ls.take j)) (netE 1 (Ls.take j)) (netX 1 (Ls.take j)) l A1 A2 B n1 c1 n2 c2 m d HM.out tb1 tb2 (by omega) (by omega) (by omega) HTB.out W w9 O1.low HRR.out O1.ed O1.en)
          have O9 := Lib.hid O1
          have LN := Lib.hid (load_net w9 O1.net)
          clear ELB XLB O1 kx
          generalize hSJ : 1 + 2 * sizesOf (Ls.take j) = SJ at *
          have HSJ := Lib.hid hSJ
          clear hSJ
          go_wp2_with (refine wpList_load_part 25 3 _ rfl rfl ⟨g8, 0, none⟩ rfl [.int .i64 (SJ : Int), .slice A1 n1 c1, .slice A2 n2 c2] (agg_net _) (sz_net _) rfl LN.out ?_)
          refine HW.out.mono ?_
          rintro e w10 ⟨A3, n3, c3, A4, n4, c4, rfl, y1, y2, y3, y4, y5, y6, y7⟩
          obtain ⟨kz, O2⟩ := O9.out.step (S' := SJ + 2 * l.length) y1 y2 y3 y4 y5 y6 y7
          have KZ := Lib.hid kz
          have OZ := Lib.hid O2
          clear kz O2 y1 y2 y3 y4 y5 y6 y7 HW O9 LN qx
          generalize hS2 : SJ + 2 * l.length = S2 at *
          have HS3 := Lib.hid hS2
          clear hS2
          go_wp2_with (refine wpList_store_row rfl 25 _ _ rfl g8 _ rfl rfl 25 _ KZ.out (by rw [size_net]; rfl) (by rfl) (by simp [Value.oneCell']) ?_)
          refine ⟨⟨j + 1, A3, A4, n3, c3, n4, c4, by omega, by go_num, ?_, ?_⟩, by simp [intOf]; omega⟩
          · rw [HSZ.out, HNE.out, HNX.out, show 1 + 2 * (sizesOf (Ls.take j) + l.length) = S2 from by have := HSJ.out; have := HS3.out; omega]
            exact OZ
          · rw [HSZ.out, HM.out]
            exact (by omega : sizesOf (Ls.take j) + m ≤ 256 * (j + 1))
        · obtain rfl : j = k := by omega
          rw [show Ls.take j = Ls from List.take_of_length_le (by rw [HN.out]; exact Nat.le_refl _)] at OS
          have LN := Lib.hid (load_net wr OS.out.net)
          have KR := Lib.hid OS.out.res
          rw [show 1 + 2 * sizesOf Ls = netS Ls from rfl] at OS LN
          generalize hNS : netS Ls = NS at *
          have HNS2 := Lib.hid hNS
          clear hNS HS2
          go_wp2_with (first | (refine wpList_load_part 25 3 _ rfl rfl ⟨g8, 0, none⟩ rfl [.int .i64 (NS : Int), .slice A1 n1 c1, .slice A2 n2 c2] (agg_net _) (sz_net _) rfl LN.out ?_) | (refine wpList_store_row rfl 25 _ _ rfl W.heap.size _ rfl rfl 25 _ KR.out (by rw [size_net]; rfl) (by rfl) (by simp [Value.oneCell']) ?_))
          refine bodyPost_ret (of_results _ _ W.heap.size (NS : Int) (.slice A1 n1 c1) (.slice A2 n2 c2) 0 rfl rfl (setRow_heap wr W.heap.size _ #[.int .i64 (NS : Int), .slice A1 n1 c1, .slice A2 n2 c2] _ _ KR.out)) rfl (post_is HQ ?_)
          have hg : wr.grownBy (wr.setRow W.heap.size #[.int .i64 (NS : Int), .slice A1 n1 c1, .slice A2 n2 c2]) (some W.heap.size) := ⟨rfl, rfl, rfl, by simp, fun j hj hne => setRow_other _ _ _ _ (fun e => hne (by rw [e]))⟩
          unfold GotOf
          rw [HO.out, if_pos rfl, if_pos rfl, if_pos rfl, HNS2.out]
          exact ⟨NS, A1, n1, c1, A2, n2, c2, rfl, World.ownsRow.kept OS.out.ed hg (Or.inr OS.out.nv.2), World.ownsRow.kept OS.out.en hg (Or.inr OS.out.nx.2), rfl, bl_setRow OS.out.low (Nat.le_refl _) _⟩

end Go.Proofs.YtcgfogdfcdndgaaGreatDoor

/- The document's EqInts, and the law's runs. -/
set_option linter.unusedVariables false
set_option linter.unusedSimpArgs false
namespace Go.Proofs.YtcgfogdfcdndgaaGreatDoor
open Go.RowKit
attribute [local go_sem] Oper.semAt_some

theorem take_one {α : Type} {l l' : List α} {k : Nat} (h : l.take k = l'.take k) (h1 : k < l.length) (h2 : k < l'.length) (hx : l[k] = l'[k]) : l.take (k + 1) = l'.take (k + 1) := by
  rw [List.take_succ_eq_append_getElem h1, List.take_succ_eq_append_getElem h2, h, hx]
set_option maxHeartbeats 400000 in
set_option maxRecDepth 20000 in
theorem eqInts_any (A A' : Option Addr) (n c n' c' : Nat) (l l' : List Int) (w : World) (hl : l.length = n) (hl' : l'.length = n') (hr : RdW w A l) (hr' : RdW w A' l') (hn : n ≤ 140737488355328) (hn' : n' ≤ 140737488355328) :
    Calls Tryz.prog 28 #[.slice A n c, .slice A' n' c'] w (GotBl w (decide (l = l'))) := by
  generalize hQ : GotBl w (decide (l = l')) = Q
  have HQ := Lib.hid hQ
  clear hQ
  by_cases hne : n = n'
  · subst hne
    have hb : ((n : Int) != (n : Int)) = false := by simp
    have HL := Lib.hid hl
    have HL' := Lib.hid hl'
    have HR := Lib.hid hr
    have HR' := Lib.hid hr'
    clear hl hl' hr hr'
    go_enter Tryz.func28, Tryz.ntmps28
    go_wp2_with fail
    go_loopw [5] (fun i wr => ∃ k : Nat, k ≤ n ∧ i = .int .i64 (k : Int) ∧ Hid (l.take k = l'.take k) ∧ Hid (Below w.heap.size w wr)) (fun i _ => n - (intOf i).toNat)
    case atStart => exact ⟨0, Nat.zero_le _, rfl, rfl, Below.refl _ _⟩
    case round =>
      obtain ⟨k, hk, rfl, HP, HB⟩ := hrel
      by_cases hlt : k < n
      · have h1 : k < l.length := by rw [HL.out]; exact hlt
        have h2 : k < l'.length := by rw [HL'.out]; exact hlt
        obtain ⟨ad, hA, hc⟩ := (HR.out.below HB.out) k h1
        obtain ⟨ad', hA', hc'⟩ := (HR'.out.below HB.out) k h2
        subst hA hA'
        have HSAME := Lib.hid (fun hx => take_one HP.out h1 h2 hx)
        have HDIFF := Lib.hid (show ¬ l[k] = l'[k] → decide (l = l') = false from fun h => by
          rw [decide_eq_false_iff_not]
          intro e
          subst e
          exact h rfl)
        generalize l[k] = x at *
        generalize l'[k] = y at *
        clear h1 h2
        by_cases hx : x = y
        · have hb2 : (x != y) = false := by simp [hx]
          have HS2 := Lib.hid (HSAME.out hx)
          clear hx HDIFF HSAME
          go_wp2_with fail
          go_quiet (fail)
          go_wp2_with fail
          exact ⟨⟨k + 1, by omega, by go_num, HS2.out, bl_drewN HB.out _⟩, by simp [intOf]; omega⟩
        · have hb2 : (x != y) = true := by simp [hx]
          have HS2 := Lib.hid (HDIFF.out hx)
          clear hx HDIFF HSAME
          go_wp2_with fail
          go_quiet (fail)
          go_wp2_with fail
          refine post_is HQ ?_
          rw [HS2.out]
          exact ⟨rfl, bl_drewN HB.out _⟩
      · obtain rfl : k = n := by omega
        have HE := Lib.hid (show decide (l = l') = true from by
          have h := HP.out
          rw [List.take_of_length_le (by rw [HL.out]; exact Nat.le_refl _), List.take_of_length_le (by rw [HL'.out]; exact Nat.le_refl _)] at h
          rw [h]
          simp)
        go_wp2_with fail
        refine post_is HQ ?_
        rw [HE.out]
        exact ⟨rfl, HB.out⟩
  · have hb : ((n : Int) != (n' : Int)) = true := by simp; omega
    have HE := Lib.hid (show decide (l = l') = false from by
      rw [decide_eq_false_iff_not]
      intro e
      subst e
      exact hne (hl.symm.trans hl'))
    clear hne hl hl' hr hr'
    go_enter Tryz.func28, Tryz.ntmps28
    go_wp2_with fail
    refine post_is HQ ?_
    rw [HE.out]
    exact ⟨rfl, Below.refl _ _⟩

end Go.Proofs.YtcgfogdfcdndgaaGreatDoor
