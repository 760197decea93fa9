/- The classes into which edges part the bytes. It wants math/bits' table as it was laid. -/
import Derived.Test.YtcgfogdfcdndgaaGreatDoorDgHQ
import Derived.Test.YtcgfogdfcdndgaaGreatDoorNfXQ
import Derived.Deep.DeepCutAuto
set_option linter.unusedVariables false
set_option linter.unusedSimpArgs false
namespace Go.Proofs.YtcgfogdfcdndgaaGreatDoor
open Go.RowKit Go.Shelf
attribute [local go_sem] Oper.semAt_some

/-- The range's own slice: from its k-th set on as it was. -/
def HeadS (w : World) (g k : Nat) (L : List S4) : Prop := ∀ i (h : i < L.length), k ≤ i → ∀ j u, (setC L[i])[j]? = some u → w.cell? ((⟨g, i * 4, none⟩ : Addr).add j) = some u
theorem HeadS.next {w w' : World} {base g g0 n cap k : Nat} {l L : List S4} (h : HeadS w g0 k L) {r : Option Nat} (hg : w.grownBy w' r) (hr : r = some g ∨ r = none) (h0 : g0 < w.heap.size) {k' : Nat} (hk : k ≤ k')
    (ho : OwnS w' base (.slice (some ⟨g, 0, none⟩) n cap) l) (hl : ∀ i (hi : i < L.length), k' ≤ i → l[i]? = some L[i]) : HeadS w' g0 k' L := fun i hi hki j u hu => by
  by_cases e : g0 = g ∧ r = some g
  · obtain ⟨rfl, _⟩ := e
    have h1 := hl i hi hki
    obtain ⟨h2, h3⟩ := List.getElem?_eq_some_iff.1 h1
    exact ho.cells h2 j u (by rw [h3]; exact hu)
  · have h1 := h i hi (Nat.le_trans hk hki) j u hu
    refine cell_keep (p := (⟨g0, i * 4, none⟩ : Addr).add j) ?_ h1
    rw [add_block]
    refine hg.block g0 h0 (fun e2 => e ⟨?_, ?_⟩)
    · rcases hr with h | h
      · exact Option.some.inj (e2.trans h)
      · rw [h] at e2
        cases e2
    · rcases hr with h | h
      · exact h
      · rw [h] at e2
        cases e2
theorem HeadS.keep {w w' : World} {g k : Nat} {L : List S4} (h : HeadS w g k L) (hk : w'.heap[g]? = w.heap[g]?) : HeadS w' g k L := fun i hi hki j u hu =>
  cell_keep (p := (⟨g, i * 4, none⟩ : Addr).add j) (by rw [add_block]; exact hk) (h i hi hki j u hu)
theorem HeadS.below {w w' : World} {g k : Nat} {L : List S4} (h : HeadS w g k L) (h0 : g < w.heap.size) (hb : Below w.heap.size w w') : HeadS w' g k L := fun i hi hki j u hu =>
  cell_keep (p := (⟨g, i * 4, none⟩ : Addr).add j) (by rw [add_block]; exact hb.block g h0) (h i hi hki j u hu)
theorem OwnS.below {w w' : World} {base : Nat} {v : Value} {l : List S4} (h : OwnS w base v l) (hb : Below w.heap.size w w') : OwnS w' base v l := World.ownsRow.kept h (grown_of_below hb none) (by cases v.ownBlock <;> simp)
theorem eq4_nil (s : S4) : Eq4 s.f nilW ↔ s = nilS := by
  constructor
  · intro h
    exact s4_inj (h.trans (s4_f nilW).symm)
  · rintro rfl
    exact s4_f nilW
theorem h4_list {w : World} {b : Nat} {s : S4} (h : H4 w b s.f) : ∀ j u, [Value.int .u64 (s.w0.toNat : Int), .int .u64 (s.w1.toNat : Int), .int .u64 (s.w2.toNat : Int), .int .u64 (s.w3.toNat : Int)][j]? = some u → w.cell? ((⟨b, 0, none⟩ : Addr).add j) = some u := fun j u hu => by
  rw [addr_mk, Nat.zero_add, cell_of_row w b j _ _ _ h, ← setC_row, List.getElem?_toArray]
  exact hu
theorem lit_cells (w : World) (s : S4) : ∀ j u, (setC s)[j]? = some u → (w.alloc (.cells #[.int .u64 (s.w0.toNat : Int), .int .u64 (s.w1.toNat : Int), .int .u64 (s.w2.toNat : Int), .int .u64 (s.w3.toNat : Int)] 51)).cell? ((⟨w.heap.size, 0, none⟩ : Addr).add j) = some u := fun j u hu => by
  rw [addr_mk, Nat.zero_add, cell_of_row _ w.heap.size j _ _ _ (heap_alloc_new w _), List.getElem?_toArray]
  exact hu
theorem h4_far {w w' : World} {b g : Nat} {f : Nat → BitVec 64} (h : H4 w b f) (hg : w.grownBy w' (some g)) (hne : b ≠ g) : H4 w' b f := (hg.block b h.lt (fun e => hne (Option.some.inj e))).trans h
/-- A set out of a block of its own, by an operation that is guarded. -/
theorem wpList_load_setG {ops : Array Oper} {rest : List Oper} {o : Oper} {a : Act} {w : World} {Q : Exit → Act → World → Prop} (hgd : Region.wanted o (yielded ops a.tmps) = true) (x : Operand) (ho : o.op = .load 51 x) (g : Nat) (hx : a.eval x = .pointer (some ⟨g, 0, none⟩)) (f : Nat → BitVec 64) (hS : H4 w g f)
    (h : wpList Tryz.prog ops Q rest (a.put o.dst (.agg (row4 f))) w) : wpList Tryz.prog ops Q (o :: rest) a w := by
  refine wpList_step fun K hK => ?_
  rw [if_pos hgd]
  exact wp_load_row 51 x ho g hx 51 (row4 f) (0, 0) _ hS Tryz.underlying51 rfl (by rw [size4, row4_size]) (hK _ _ h)
def GotCs (W : World) (L : List S4) (e : Ending) (W' : World) : Prop := ∃ g n cap, e = .returned (.slice (some ⟨g, 0, none⟩) n cap) ∧ L.length = n ∧ OwnS W' W.heap.size (.slice (some ⟨g, 0, none⟩) n cap) L ∧ Below W.heap.size W W'

set_option maxRecDepth 100000 in
set_option maxHeartbeats 8000000 in
theorem classes_any (E : List Ed) (Ae : Option Addr) (ne ce : Nat) (hne : E.length = ne) (hce : ne ≤ ce) (hm : ne ≤ 140737488355328) (W : World) (hr : RdE W Ae E) (hT : Tab W) :
    Calls Tryz.prog 53 #[.slice Ae ne ce] W (fun e W' => ∃ C : List S4, PartsS E C ∧ (C.map leS).Pairwise (· ≤ ·) ∧ GotCs W C e W') := by
  generalize hQ : (fun e W' => ∃ C : List S4, PartsS E C ∧ (C.map leS).Pairwise (· ≤ ·) ∧ GotCs W C e W') = Q
  have HQ := Lib.hid hQ
  have HR := Lib.hid hr
  have HT := Lib.hid hT
  have HN := Lib.hid hne
  have hz := zero4
  rw [tab4_row] at hz
  have htl := Lib.hid (show 0 < W.heap.size from World.block_lt_of_cell? W _ (hT 0 (by omega)))
  clear hQ hr hT hne
  go_enter Tryz.func53, Tryz.ntmps53
  go_wp2_with fail
  refine (span_any 0 255 (by omega) (by omega) W).mono ?_
  rintro e w1 ⟨rfl, hb1⟩
  have hall : row4 (allW nilW (spanL 0 (255 + 1 - 0))) = row4 allS.f := row4_congr (s4_f _).symm
  rw [hall]
  have PT0 := Lib.hid (parts_ok E 0 (Nat.zero_le _))
  rw [show partsS (E.take 0) = [allS] from rfl] at PT0
  generalize allS = s0 at *
  rw [show row4 s0.f = #[.int .u64 (s0.w0.toNat : Int), .int .u64 (s0.w1.toNat : Int), .int .u64 (s0.w2.toNat : Int), .int .u64 (s0.w3.toNat : Int)] from rfl]
  have B1 := Lib.hid (bl_alloc hb1 (.cells #[.int .u64 (s0.w0.toNat : Int), .int .u64 (s0.w1.toNat : Int), .int .u64 (s0.w2.toNat : Int), .int .u64 (s0.w3.toNat : Int)] 51))
  have O1 := Lib.hid (show OwnS (w1.alloc (.cells #[.int .u64 (s0.w0.toNat : Int), .int .u64 (s0.w1.toNat : Int), .int .u64 (s0.w2.toNat : Int), .int .u64 (s0.w3.toNat : Int)] 51)) W.heap.size (.slice (some ⟨w1.heap.size, 0, none⟩) 1 1) [s0] from
    ⟨rfl, Or.inr ⟨w1.heap.size, 1, _, rfl, hb1.size, heap_alloc_new w1 _, Nat.le_refl _, by simp [maxLen], rfl, rfl⟩⟩)
  clear hb1 hall
  go_upto_region 2 with fail
  generalize w1.alloc (.cells #[.int .u64 (s0.w0.toNat : Int), .int .u64 (s0.w1.toNat : Int), .int .u64 (s0.w2.toNat : Int), .int .u64 (s0.w3.toNat : Int)] 51) = w2 at *
  generalize w1.heap.size = g1 at *
  go_wp2_with fail
  go_loopw [3, 14] (fun v3 vi wr => ∃ (i : Nat) (L : List S4) (g n cap : Nat), i ≤ ne ∧ vi = .int .i64 (i : Int) ∧ v3 = .slice (some ⟨g, 0, none⟩) n cap ∧ Hid (L.length = n) ∧ Hid (PartsS (E.take i) L) ∧ Hid (OwnS wr W.heap.size (.slice (some ⟨g, 0, none⟩) n cap) L) ∧ Hid (Below W.heap.size W wr)) (fun _ vi _ => ne - (intOf vi).toNat)
  case atStart => exact ⟨0, [s0], g1, 1, 1, Nat.zero_le _, rfl, rfl, rfl, PT0.out, O1.out, B1.out⟩
  case round =>
    obtain ⟨i, L, g, n, cap, hi, rfl, rfl, HLn, PT, OL, BW⟩ := hrel
    clear PT0 O1 B1
    by_cases hlt : i < ne
    · have hil : i < E.length := by rw [HN.out]; exact hlt
      obtain ⟨ad, hA, hcs⟩ := (HR.out.below BW.out) i hil
      subst hA
      have PN := Lib.hid (show PartsS (E.take (i + 1)) (splitS L E[i].set) from by rw [List.take_succ_eq_append_getElem hil]; exact PT.out.split _)
      have HLL := Lib.hid PT.out.len
      generalize E[i] = e at *
      have HCS := Lib.hid (show ∀ j u, [Value.int .i64 e.fr, .int .i64 e.to, .int .u64 (e.set.w0.toNat : Int), .int .u64 (e.set.w1.toNat : Int), .int .u64 (e.set.w2.toNat : Int), .int .u64 (e.set.w3.toNat : Int), .bool e.free][j]? = some u → wr.cell? ((ad.add (i * 7)).add j) = some u from hcs)
      clear hil hcs PT
      go_upto_region 5 with (refine wpList_load_part 53 7 _ rfl rfl (ad.add (i * 7)) rfl [.int .i64 e.fr, .int .i64 e.to, .int .u64 (e.set.w0.toNat : Int), .int .u64 (e.set.w1.toNat : Int), .int .u64 (e.set.w2.toNat : Int), .int .u64 (e.set.w3.toNat : Int), .bool e.free] (agg_edge _) (sz_edge _) rfl HCS.out ?_)
      have K5 := Lib.hid (heap_alloc_new wr (.cells #[.int .i64 e.fr, .int .i64 e.to, .int .u64 (e.set.w0.toNat : Int), .int .u64 (e.set.w1.toNat : Int), .int .u64 (e.set.w2.toNat : Int), .int .u64 (e.set.w3.toNat : Int), .bool e.free] 53))
      have bA := bl_alloc (Below.refl wr.heap.size wr) (.cells #[.int .i64 e.fr, .int .i64 e.to, .int .u64 (e.set.w0.toNat : Int), .int .u64 (e.set.w1.toNat : Int), .int .u64 (e.set.w2.toNat : Int), .int .u64 (e.set.w3.toNat : Int), .bool e.free] 53)
      have OA := Lib.hid (OL.out.below bA)
      have BA := Lib.hid (bl_trans BW.out bA)
      clear bA OL BW HCS
      generalize wr.alloc (.cells #[.int .i64 e.fr, .int .i64 e.to, .int .u64 (e.set.w0.toNat : Int), .int .u64 (e.set.w1.toNat : Int), .int .u64 (e.set.w2.toNat : Int), .int .u64 (e.set.w3.toNat : Int), .bool e.free] 53) = wA at *
      generalize wr.heap.size = b5 at *
      have HGA := Lib.hid (show g < wA.heap.size ∧ W.heap.size ≤ g from by have h := World.ownsRow.lt OA.out g rfl; exact ⟨h.2, h.1⟩)
      have HD0 := Lib.hid (show HeadS wA g 0 L from fun i hi _ => OA.out.cells hi)
      have OA0 := Lib.hid (show OwnS wA W.heap.size (.slice (some ⟨g, 0, none⟩) n cap) (stS L e.set 0) from by rw [stS_zero]; exact OA.out)
      have HL0 := Lib.hid (show (stS L e.set 0).length = n from by rw [stS_zero]; exact HLn.out)
      clear OA
      go_wp2_with fail
      go_loopw [3, 20] (fun v3 vi wr => ∃ (k g' n' cap' : Nat), k ≤ n ∧ vi = .int .i64 (k : Int) ∧ v3 = .slice (some ⟨g', 0, none⟩) n' cap' ∧ Hid ((stS L e.set k).length = n') ∧ Hid (OwnS wr W.heap.size (.slice (some ⟨g', 0, none⟩) n' cap') (stS L e.set k)) ∧ Hid (HeadS wr g k L) ∧
        Hid (wr.heap[b5]? = some (.cells #[.int .i64 e.fr, .int .i64 e.to, .int .u64 (e.set.w0.toNat : Int), .int .u64 (e.set.w1.toNat : Int), .int .u64 (e.set.w2.toNat : Int), .int .u64 (e.set.w3.toNat : Int), .bool e.free] 53 (0, 0))) ∧ Hid (Below W.heap.size W wr) ∧ Hid (wA.heap.size ≤ wr.heap.size)) (fun _ vi _ => n - (intOf vi).toNat)
      case atStart => exact ⟨0, g, n, cap, Nat.zero_le _, rfl, rfl, HL0.out, OA0.out, HD0.out, K5.out, BA.out, Nat.le_refl _⟩
      case round =>
        obtain ⟨k, g', n', cap', hk, rfl, rfl, HLk, OK, HD, K5r, BK, SZ⟩ := hrel
        clear K5 BA HD0 OA0 HL0
        by_cases hlk : k < n
        · have hkl : k < L.length := by rw [HLn.out]; exact hlk
          have hcs := HD.out k hkl (Nat.le_refl _)
          have hlen := stS_len L e.set (k := k) (by omega)
          have HKN := Lib.hid (show k < (stS L e.set k).length from by omega)
          have HNL := Lib.hid (show n' ≤ 600 from by have := HLk.out; have := HLL.out; omega)
          have HYES := Lib.hid (fun h => stS_yes L e.set hkl h)
          have HNO := Lib.hid (fun h => stS_no L e.set hkl h)
          have HFR := Lib.hid (show ∀ i (hi : i < L.length), k + 1 ≤ i → (stS L e.set (k + 1))[i]? = some L[i] from fun i hi hki => stS_from L e.set hki hi)
          generalize L[k] = c at *
          have HCK := Lib.hid (show ∀ j u, [Value.int .u64 (c.w0.toNat : Int), .int .u64 (c.w1.toNat : Int), .int .u64 (c.w2.toNat : Int), .int .u64 (c.w3.toNat : Int)][j]? = some u → wr.cell? ((⟨g, k * 4, none⟩ : Addr).add j) = some u from hcs)
          have hkb : k < 1000 := by have := HLn.out; have := HLL.out; omega
          have hC := H4.new wr nilW
          clear hkl hcs hlen
          go_upto_region 8 with (first | (refine wpList_load_part 51 4 _ rfl rfl ⟨g, k * 4, none⟩ rfl [.int .u64 (c.w0.toNat : Int), .int .u64 (c.w1.toNat : Int), .int .u64 (c.w2.toNat : Int), .int .u64 (c.w3.toNat : Int)] (by kernel_rfl) (by kernel_rfl) rfl HCK.out ?_) | (refine wpList_store_row rfl 51 _ _ rfl wr.heap.size (row4 c.f) rfl rfl _ _ hC (by rw [size4, row4_size]) (by rw [row4_size, row4_size]) (row4_one _) ?_))
          have b0 : Below wr.heap.size wr ((wr.alloc (.cells (row4 nilW) 51)).setRow wr.heap.size (row4 c.f)) := bl_setRow (bl_alloc (Below.refl _ _) _) (Nat.le_refl _) _
          have H7 := Lib.hid (show H4 ((wr.alloc (.cells (row4 nilW) 51)).setRow wr.heap.size (row4 c.f)) wr.heap.size c.f from hC.laid)
          have OK2 := Lib.hid (OK.out.below b0)
          have HD2 := Lib.hid (HD.out.below (by have := HGA.out.1; have := SZ.out; omega) b0)
          have K52 := Lib.hid ((b0.block b5 (Array.getElem?_eq_some_iff.1 K5r.out).1).trans K5r.out)
          have BK2 := Lib.hid (bl_trans BK.out b0)
          have SZ2 := Lib.hid (Nat.le_trans SZ.out b0.size)
          clear hC b0 OK HD K5r BK SZ HCK
          generalize (wr.alloc (.cells (row4 nilW) 51)).setRow wr.heap.size (row4 c.f) = w0 at *
          generalize wr.heap.size = b7 at *
          simp only [Act.put]
          go_cut [8, 9] (fun t8 t9 wx => ∃ b8 b9, t8 = .pointer (some ⟨b8, 0, none⟩) ∧ t9 = .pointer (some ⟨b9, 0, none⟩) ∧ H4 wx b8 (bothS c e.set).f ∧ H4 wx b9 (offS c e.set).f ∧ w0.heap.size ≤ b8 ∧ w0.heap.size ≤ b9 ∧ Below w0.heap.size w0 wx)
          case first =>
            refine wp_region_held_drew (S := fun wS => Below w0.heap.size w0 wS) (by kernel_rfl) (bl_drewN (Below.refl _ _) 1) (fun hHeld => ?_)
            have hE : ∀ wS, Below w0.heap.size w0 wS → ∀ j u, (setC e.set)[j]? = some u → wS.cell? ((⟨b5, 2, none⟩ : Addr).add j) = some u := fun wS hb j u hu => by
              rw [addr_mk, cell_of_row wS b5 _ _ _ _ ((hb.block b5 (Array.getElem?_eq_some_iff.1 K52.out).1).trans K52.out)]
              match j, hu with
              | 0, hu => exact hu
              | 1, hu => exact hu
              | 2, hu => exact hu
              | 3, hu => exact hu
            generalize w0.drew = wd at *
            try simp only [zzA, zzB, zzC, Act.put, zzD, zzE, zzF]
            refine wpAnyH_take (i := 0) (v := .agg (row4 c.f)) rfl (by kernel_rfl) (by kernel_rfl) (by kernel_rfl) (fun _ _ _ h => h) (yields_set (by rfl) (.tmp 7) rfl b7 rfl c.f (fun wS h => H7.out.below h)) hHeld ?_
            try simp only [zzA, zzB, zzC, Act.put, zzD, zzE, zzF]
            refine wpAnyH_take (i := 1) (v := ?vzb1) rfl (by kernel_rfl) (by kernel_rfl) (by kernel_rfl) (fun _ _ _ h => h) (Or.inl ⟨by rfl, ?yzb1⟩) hHeld ?rzb1
            case yzb1 => (intro wS hSw; clear hSw; go_simp; try (with_reducible rfl))
            try simp only [zzA, zzB, zzC, Act.put, zzD, zzE, zzF]
            refine wpAnyH_take (i := 2) (v := .agg (row4 e.set.f)) rfl (by kernel_rfl) (by kernel_rfl) (by kernel_rfl) (fun _ _ _ h => h) (yields_part 51 4 (by rfl) (.tmp 26) rfl ⟨b5, 2, none⟩ rfl (setC e.set) (fun _ => by kernel_rfl) (fun _ => by kernel_rfl) rfl hE) hHeld ?_
            try simp only [zzA, zzB, zzC, Act.put, zzD, zzE, zzF]
            refine wpAnyH_take (i := 4) (v := .agg (row4 c.f)) rfl (by kernel_rfl) (by kernel_rfl) (by kernel_rfl) (fun _ _ _ h => h) (yields_set (by rfl) (.tmp 7) rfl b7 rfl c.f (fun wS h => H7.out.below h)) hHeld ?_
            try simp only [zzA, zzB, zzC, Act.put, zzD, zzE, zzF]
            refine wpAnyH_take (i := 5) (v := ?vze5) rfl (by kernel_rfl) (by kernel_rfl) (by kernel_rfl) (fun _ _ _ h => h) (Or.inl ⟨by rfl, ?yze5⟩) hHeld ?rze5
            case yze5 => (intro wS hSw; clear hSw; go_simp; try (with_reducible rfl))
            try simp only [zzA, zzB, zzC, Act.put, zzD, zzE, zzF]
            refine wpAnyH_take (i := 6) (v := .agg (row4 e.set.f)) rfl (by kernel_rfl) (by kernel_rfl) (by kernel_rfl) (fun _ _ _ h => h) (yields_part 51 4 (by rfl) (.tmp 30) rfl ⟨b5, 2, none⟩ rfl (setC e.set) (fun _ => by kernel_rfl) (fun _ => by kernel_rfl) rfl hE) hHeld ?_
            clear hE
            try simp only [zzA, zzB, zzC, Act.put, zzD, zzE, zzF]
            refine wpAnyH_ready (rs := [3, 8, 9]) (by kernel_rfl) (by simp) (AllReadyH.cons rfl (fun K hK => ?_) (AllReadyH.cons rfl (fun K hK => ?_) (AllReadyH.cons rfl (fun K hK => ?_) AllReadyH.nil)))
            · skip
              go_simp
              go_at_call 81
              refine (both_any c.f e.set.f _).mono ?_
              rintro e1 wv1 ⟨rfl, hb⟩
              have hS1 := bl_trans hHeld hb
              clear hHeld hb
              go_wp2_with fail
              refine hK.out _ _ hS1 (fun hHeld => ?_)
              clear hK K hS1
              try simp only [zzA, zzB, zzC, Act.put, zzD, zzE, zzF]
              refine wpAnyH_ready (rs := [7, 8, 9]) (by kernel_rfl) (by simp) (AllReadyH.cons rfl (fun K hK => ?_) (AllReadyH.cons rfl (fun K hK => ?_) (AllReadyH.cons rfl (fun K hK => ?_) AllReadyH.nil)))
              · skip
                go_simp
                go_at_call 82
                refine (less_any c.f e.set.f _).mono ?_
                rintro e1 wv2 ⟨rfl, hb⟩
                have hS1 := bl_trans hHeld hb
                clear hHeld hb
                go_wp2_with fail
                refine hK.out _ _ hS1 (fun hHeld => ?_)
                clear hK K hS1
                try simp only [zzA, zzB, zzC, Act.put, zzD, zzE, zzF]
                refine wpAnyH_ready (rs := [8, 9]) (by kernel_rfl) (by simp) (AllReadyH.cons rfl (fun K hK => ?_) (AllReadyH.cons rfl (fun K hK => ?_) AllReadyH.nil))
                · skip
                  go_simp
                  have hS1 := bl_alloc hHeld (.cells (row4 nilW) 51)
                  have h8 := H4.new wv2 nilW
                  have hl8 := hHeld.size
                  refine hK.out _ _ hS1 (fun hHeld => ?_)
                  clear hK K hS1
                  generalize wv2.alloc (.cells (row4 nilW) 51) = wv3 at *
                  generalize wv2.heap.size = b8 at *
                  try simp only [zzA, zzB, zzC, Act.put, zzD, zzE, zzF]
                  refine wpAnyH_ready (rs := [9]) (by kernel_rfl) (by simp) (AllReadyH.cons rfl (fun K hK => ?_) AllReadyH.nil)
                  go_simp
                  have hS1 := bl_alloc hHeld (.cells (row4 nilW) 51)
                  have h9 := H4.new wv3 nilW
                  have hl9 := hHeld.size
                  have h8n := h8.alloc (.cells (row4 nilW) 51)
                  have hlt := h8.lt
                  clear h8
                  have h8 := h8n
                  clear h8n
                  refine hK.out _ _ hS1 (fun hHeld => ?_)
                  clear hK K hS1
                  generalize wv3.alloc (.cells (row4 nilW) 51) = wv4 at *
                  generalize wv3.heap.size = b9 at *
                  have h89 : b8 ≠ b9 := by omega
                  clear hlt
                  try simp only [zzA, zzB, zzC, Act.put, zzD, zzE, zzF]
                  refine wpAnyH_ready (rs := [10]) (by kernel_rfl) (by simp) (AllReadyH.cons rfl (fun K hK => ?_) AllReadyH.nil)
                  rw [if_pos (by rfl)]
                  refine wp_store_row 51 _ _ rfl b8 (row4 (andW c.f e.set.f)) rfl rfl _ _ h8 (by rw [size4, row4_size]) (by rw [row4_size, row4_size]) (row4_one _) ?_
                  have hS1 := bl_setRow hHeld hl8 (row4 (andW c.f e.set.f))
                  have h9n := h9.row (fun e => h89 e.symm) (row4 (andW c.f e.set.f))
                  have h8n : H4 _ b8 (bothS c e.set).f := (h8.laid (f' := andW c.f e.set.f)).congr (s4_f _).symm
                  clear h8 h9
                  refine hK.out _ _ hS1 (fun hHeld => ?_)
                  clear hK K hS1
                  try simp only [zzA, zzB, zzC, Act.put, zzD, zzE, zzF]
                  refine wpAnyH_ready (rs := [11]) (by kernel_rfl) (by simp) (AllReadyH.cons rfl (fun K hK => ?_) AllReadyH.nil)
                  rw [if_pos (by rfl)]
                  refine wp_store_row 51 _ _ rfl b9 (row4 (andW c.f (notW e.set.f))) rfl rfl _ _ h9n (by rw [size4, row4_size]) (by rw [row4_size, row4_size]) (row4_one _) ?_
                  have hS1 := bl_setRow hHeld hl9 (row4 (andW c.f (notW e.set.f)))
                  have h8z := h8n.row h89 (row4 (andW c.f (notW e.set.f)))
                  have h9z : H4 _ b9 (offS c e.set).f := (h9n.laid (f' := andW c.f (notW e.set.f))).congr (s4_f _).symm
                  clear h8n h9n
                  refine hK.out _ _ hS1 (fun hHeld => ?_)
                  clear hK K hS1
                  try simp only [zzA, zzB, zzC, Act.put, zzD, zzE, zzF]
                  refine wpAnyH_done (by kernel_rfl) ?_ _
                  go_wp2_with fail
                  go_meet
                  exact ⟨b8, b9, rfl, rfl, h8z, h9z, hl8, hl9, hHeld⟩
                · skip
                  go_simp
                  have hS1 := bl_alloc hHeld (.cells (row4 nilW) 51)
                  have h9 := H4.new wv2 nilW
                  have hl9 := hHeld.size
                  refine hK.out _ _ hS1 (fun hHeld => ?_)
                  clear hK K hS1
                  generalize wv2.alloc (.cells (row4 nilW) 51) = wv5 at *
                  generalize wv2.heap.size = b9 at *
                  try simp only [zzA, zzB, zzC, Act.put, zzD, zzE, zzF]
                  refine wpAnyH_ready (rs := [8]) (by kernel_rfl) (by simp) (AllReadyH.cons rfl (fun K hK => ?_) AllReadyH.nil)
                  go_simp
                  have hS1 := bl_alloc hHeld (.cells (row4 nilW) 51)
                  have h8 := H4.new wv5 nilW
                  have hl8 := hHeld.size
                  have h9n := h9.alloc (.cells (row4 nilW) 51)
                  have hlt := h9.lt
                  clear h9
                  have h9 := h9n
                  clear h9n
                  refine hK.out _ _ hS1 (fun hHeld => ?_)
                  clear hK K hS1
                  generalize wv5.alloc (.cells (row4 nilW) 51) = wv6 at *
                  generalize wv5.heap.size = b8 at *
                  have h89 : b8 ≠ b9 := by omega
                  clear hlt
                  try simp only [zzA, zzB, zzC, Act.put, zzD, zzE, zzF]
                  refine wpAnyH_ready (rs := [10]) (by kernel_rfl) (by simp) (AllReadyH.cons rfl (fun K hK => ?_) AllReadyH.nil)
                  rw [if_pos (by rfl)]
                  refine wp_store_row 51 _ _ rfl b8 (row4 (andW c.f e.set.f)) rfl rfl _ _ h8 (by rw [size4, row4_size]) (by rw [row4_size, row4_size]) (row4_one _) ?_
                  have hS1 := bl_setRow hHeld hl8 (row4 (andW c.f e.set.f))
                  have h9n := h9.row (fun e => h89 e.symm) (row4 (andW c.f e.set.f))
                  have h8n : H4 _ b8 (bothS c e.set).f := (h8.laid (f' := andW c.f e.set.f)).congr (s4_f _).symm
                  clear h8 h9
                  refine hK.out _ _ hS1 (fun hHeld => ?_)
                  clear hK K hS1
                  try simp only [zzA, zzB, zzC, Act.put, zzD, zzE, zzF]
                  refine wpAnyH_ready (rs := [11]) (by kernel_rfl) (by simp) (AllReadyH.cons rfl (fun K hK => ?_) AllReadyH.nil)
                  rw [if_pos (by rfl)]
                  refine wp_store_row 51 _ _ rfl b9 (row4 (andW c.f (notW e.set.f))) rfl rfl _ _ h9n (by rw [size4, row4_size]) (by rw [row4_size, row4_size]) (row4_one _) ?_
                  have hS1 := bl_setRow hHeld hl9 (row4 (andW c.f (notW e.set.f)))
                  have h8z := h8n.row h89 (row4 (andW c.f (notW e.set.f)))
                  have h9z : H4 _ b9 (offS c e.set).f := (h9n.laid (f' := andW c.f (notW e.set.f))).congr (s4_f _).symm
                  clear h8n h9n
                  refine hK.out _ _ hS1 (fun hHeld => ?_)
                  clear hK K hS1
                  try simp only [zzA, zzB, zzC, Act.put, zzD, zzE, zzF]
                  refine wpAnyH_done (by kernel_rfl) ?_ _
                  go_wp2_with fail
                  go_meet
                  exact ⟨b8, b9, rfl, rfl, h8z, h9z, hl8, hl9, hHeld⟩
              · skip
                go_simp
                have hS1 := bl_alloc hHeld (.cells (row4 nilW) 51)
                have h8 := H4.new wv1 nilW
                have hl8 := hHeld.size
                refine hK.out _ _ hS1 (fun hHeld => ?_)
                clear hK K hS1
                generalize wv1.alloc (.cells (row4 nilW) 51) = wv7 at *
                generalize wv1.heap.size = b8 at *
                try simp only [zzA, zzB, zzC, Act.put, zzD, zzE, zzF]
                refine wpAnyH_ready (rs := [7, 9]) (by kernel_rfl) (by simp) (AllReadyH.cons rfl (fun K hK => ?_) (AllReadyH.cons rfl (fun K hK => ?_) AllReadyH.nil))
                · skip
                  go_simp
                  go_at_call 82
                  refine (less_any c.f e.set.f _).mono ?_
                  rintro e1 wv8 ⟨rfl, hb⟩
                  have hS1 := bl_trans hHeld hb
                  have h8n := h8.below hb
                  clear h8
                  have h8 := h8n
                  clear h8n
                  clear hHeld hb
                  go_wp2_with fail
                  refine hK.out _ _ hS1 (fun hHeld => ?_)
                  clear hK K hS1
                  try simp only [zzA, zzB, zzC, Act.put, zzD, zzE, zzF]
                  refine wpAnyH_ready (rs := [9]) (by kernel_rfl) (by simp) (AllReadyH.cons rfl (fun K hK => ?_) AllReadyH.nil)
                  go_simp
                  have hS1 := bl_alloc hHeld (.cells (row4 nilW) 51)
                  have h9 := H4.new wv8 nilW
                  have hl9 := hHeld.size
                  have h8n := h8.alloc (.cells (row4 nilW) 51)
                  have hlt := h8.lt
                  clear h8
                  have h8 := h8n
                  clear h8n
                  refine hK.out _ _ hS1 (fun hHeld => ?_)
                  clear hK K hS1
                  generalize wv8.alloc (.cells (row4 nilW) 51) = wv9 at *
                  generalize wv8.heap.size = b9 at *
                  have h89 : b8 ≠ b9 := by omega
                  clear hlt
                  try simp only [zzA, zzB, zzC, Act.put, zzD, zzE, zzF]
                  refine wpAnyH_ready (rs := [10]) (by kernel_rfl) (by simp) (AllReadyH.cons rfl (fun K hK => ?_) AllReadyH.nil)
                  rw [if_pos (by rfl)]
                  refine wp_store_row 51 _ _ rfl b8 (row4 (andW c.f e.set.f)) rfl rfl _ _ h8 (by rw [size4, row4_size]) (by rw [row4_size, row4_size]) (row4_one _) ?_
                  have hS1 := bl_setRow hHeld hl8 (row4 (andW c.f e.set.f))
                  have h9n := h9.row (fun e => h89 e.symm) (row4 (andW c.f e.set.f))
                  have h8n : H4 _ b8 (bothS c e.set).f := (h8.laid (f' := andW c.f e.set.f)).congr (s4_f _).symm
                  clear h8 h9
                  refine hK.out _ _ hS1 (fun hHeld => ?_)
                  clear hK K hS1
                  try simp only [zzA, zzB, zzC, Act.put, zzD, zzE, zzF]
                  refine wpAnyH_ready (rs := [11]) (by kernel_rfl) (by simp) (AllReadyH.cons rfl (fun K hK => ?_) AllReadyH.nil)
                  rw [if_pos (by rfl)]
                  refine wp_store_row 51 _ _ rfl b9 (row4 (andW c.f (notW e.set.f))) rfl rfl _ _ h9n (by rw [size4, row4_size]) (by rw [row4_size, row4_size]) (row4_one _) ?_
                  have hS1 := bl_setRow hHeld hl9 (row4 (andW c.f (notW e.set.f)))
                  have h8z := h8n.row h89 (row4 (andW c.f (notW e.set.f)))
                  have h9z : H4 _ b9 (offS c e.set).f := (h9n.laid (f' := andW c.f (notW e.set.f))).congr (s4_f _).symm
                  clear h8n h9n
                  refine hK.out _ _ hS1 (fun hHeld => ?_)
                  clear hK K hS1
                  try simp only [zzA, zzB, zzC, Act.put, zzD, zzE, zzF]
                  refine wpAnyH_done (by kernel_rfl) ?_ _
                  go_wp2_with fail
                  go_meet
                  exact ⟨b8, b9, rfl, rfl, h8z, h9z, hl8, hl9, hHeld⟩
                · skip
                  go_simp
                  have hS1 := bl_alloc hHeld (.cells (row4 nilW) 51)
                  have h9 := H4.new wv7 nilW
                  have hl9 := hHeld.size
                  have h8n := h8.alloc (.cells (row4 nilW) 51)
                  have hlt := h8.lt
                  clear h8
                  have h8 := h8n
                  clear h8n
                  refine hK.out _ _ hS1 (fun hHeld => ?_)
                  clear hK K hS1
                  generalize wv7.alloc (.cells (row4 nilW) 51) = wv10 at *
                  generalize wv7.heap.size = b9 at *
                  have h89 : b8 ≠ b9 := by omega
                  clear hlt
                  try simp only [zzA, zzB, zzC, Act.put, zzD, zzE, zzF]
                  refine wpAnyH_ready (rs := [7]) (by kernel_rfl) (by simp) (AllReadyH.cons rfl (fun K hK => ?_) AllReadyH.nil)
                  go_simp
                  go_at_call 82
                  refine (less_any c.f e.set.f _).mono ?_
                  rintro e1 wv11 ⟨rfl, hb⟩
                  have hS1 := bl_trans hHeld hb
                  have h8n := h8.below hb
                  clear h8
                  have h8 := h8n
                  clear h8n
                  have h9n := h9.below hb
                  clear h9
                  have h9 := h9n
                  clear h9n
                  clear hHeld hb
                  go_wp2_with fail
                  refine hK.out _ _ hS1 (fun hHeld => ?_)
                  clear hK K hS1
                  try simp only [zzA, zzB, zzC, Act.put, zzD, zzE, zzF]
                  refine wpAnyH_ready (rs := [10]) (by kernel_rfl) (by simp) (AllReadyH.cons rfl (fun K hK => ?_) AllReadyH.nil)
                  rw [if_pos (by rfl)]
                  refine wp_store_row 51 _ _ rfl b8 (row4 (andW c.f e.set.f)) rfl rfl _ _ h8 (by rw [size4, row4_size]) (by rw [row4_size, row4_size]) (row4_one _) ?_
                  have hS1 := bl_setRow hHeld hl8 (row4 (andW c.f e.set.f))
                  have h9n := h9.row (fun e => h89 e.symm) (row4 (andW c.f e.set.f))
                  have h8n : H4 _ b8 (bothS c e.set).f := (h8.laid (f' := andW c.f e.set.f)).congr (s4_f _).symm
                  clear h8 h9
                  refine hK.out _ _ hS1 (fun hHeld => ?_)
                  clear hK K hS1
                  try simp only [zzA, zzB, zzC, Act.put, zzD, zzE, zzF]
                  refine wpAnyH_ready (rs := [11]) (by kernel_rfl) (by simp) (AllReadyH.cons rfl (fun K hK => ?_) AllReadyH.nil)
                  rw [if_pos (by rfl)]
                  refine wp_store_row 51 _ _ rfl b9 (row4 (andW c.f (notW e.set.f))) rfl rfl _ _ h9n (by rw [size4, row4_size]) (by rw [row4_size, row4_size]) (row4_one _) ?_
                  have hS1 := bl_setRow hHeld hl9 (row4 (andW c.f (notW e.set.f)))
                  have h8z := h8n.row h89 (row4 (andW c.f (notW e.set.f)))
                  have h9z : H4 _ b9 (offS c e.set).f := (h9n.laid (f' := andW c.f (notW e.set.f))).congr (s4_f _).symm
                  clear h8n h9n
                  refine hK.out _ _ hS1 (fun hHeld => ?_)
                  clear hK K hS1
                  try simp only [zzA, zzB, zzC, Act.put, zzD, zzE, zzF]
                  refine wpAnyH_done (by kernel_rfl) ?_ _
                  go_wp2_with fail
                  go_meet
                  exact ⟨b8, b9, rfl, rfl, h8z, h9z, hl8, hl9, hHeld⟩
              · skip
                go_simp
                have hS1 := bl_alloc hHeld (.cells (row4 nilW) 51)
                have h9 := H4.new wv1 nilW
                have hl9 := hHeld.size
                refine hK.out _ _ hS1 (fun hHeld => ?_)
                clear hK K hS1
                generalize wv1.alloc (.cells (row4 nilW) 51) = wv12 at *
                generalize wv1.heap.size = b9 at *
                try simp only [zzA, zzB, zzC, Act.put, zzD, zzE, zzF]
                refine wpAnyH_ready (rs := [7, 8]) (by kernel_rfl) (by simp) (AllReadyH.cons rfl (fun K hK => ?_) (AllReadyH.cons rfl (fun K hK => ?_) AllReadyH.nil))
                · skip
                  go_simp
                  go_at_call 82
                  refine (less_any c.f e.set.f _).mono ?_
                  rintro e1 wv13 ⟨rfl, hb⟩
                  have hS1 := bl_trans hHeld hb
                  have h9n := h9.below hb
                  clear h9
                  have h9 := h9n
                  clear h9n
                  clear hHeld hb
                  go_wp2_with fail
                  refine hK.out _ _ hS1 (fun hHeld => ?_)
                  clear hK K hS1
                  try simp only [zzA, zzB, zzC, Act.put, zzD, zzE, zzF]
                  refine wpAnyH_ready (rs := [8]) (by kernel_rfl) (by simp) (AllReadyH.cons rfl (fun K hK => ?_) AllReadyH.nil)
                  go_simp
                  have hS1 := bl_alloc hHeld (.cells (row4 nilW) 51)
                  have h8 := H4.new wv13 nilW
                  have hl8 := hHeld.size
                  have h9n := h9.alloc (.cells (row4 nilW) 51)
                  have hlt := h9.lt
                  clear h9
                  have h9 := h9n
                  clear h9n
                  refine hK.out _ _ hS1 (fun hHeld => ?_)
                  clear hK K hS1
                  generalize wv13.alloc (.cells (row4 nilW) 51) = wv14 at *
                  generalize wv13.heap.size = b8 at *
                  have h89 : b8 ≠ b9 := by omega
                  clear hlt
                  try simp only [zzA, zzB, zzC, Act.put, zzD, zzE, zzF]
                  refine wpAnyH_ready (rs := [10]) (by kernel_rfl) (by simp) (AllReadyH.cons rfl (fun K hK => ?_) AllReadyH.nil)
                  rw [if_pos (by rfl)]
                  refine wp_store_row 51 _ _ rfl b8 (row4 (andW c.f e.set.f)) rfl rfl _ _ h8 (by rw [size4, row4_size]) (by rw [row4_size, row4_size]) (row4_one _) ?_
                  have hS1 := bl_setRow hHeld hl8 (row4 (andW c.f e.set.f))
                  have h9n := h9.row (fun e => h89 e.symm) (row4 (andW c.f e.set.f))
                  have h8n : H4 _ b8 (bothS c e.set).f := (h8.laid (f' := andW c.f e.set.f)).congr (s4_f _).symm
                  clear h8 h9
                  refine hK.out _ _ hS1 (fun hHeld => ?_)
                  clear hK K hS1
                  try simp only [zzA, zzB, zzC, Act.put, zzD, zzE, zzF]
                  refine wpAnyH_ready (rs := [11]) (by kernel_rfl) (by simp) (AllReadyH.cons rfl (fun K hK => ?_) AllReadyH.nil)
                  rw [if_pos (by rfl)]
                  refine wp_store_row 51 _ _ rfl b9 (row4 (andW c.f (notW e.set.f))) rfl rfl _ _ h9n (by rw [size4, row4_size]) (by rw [row4_size, row4_size]) (row4_one _) ?_
                  have hS1 := bl_setRow hHeld hl9 (row4 (andW c.f (notW e.set.f)))
                  have h8z := h8n.row h89 (row4 (andW c.f (notW e.set.f)))
                  have h9z : H4 _ b9 (offS c e.set).f := (h9n.laid (f' := andW c.f (notW e.set.f))).congr (s4_f _).symm
                  clear h8n h9n
                  refine hK.out _ _ hS1 (fun hHeld => ?_)
                  clear hK K hS1
                  try simp only [zzA, zzB, zzC, Act.put, zzD, zzE, zzF]
                  refine wpAnyH_done (by kernel_rfl) ?_ _
                  go_wp2_with fail
                  go_meet
                  exact ⟨b8, b9, rfl, rfl, h8z, h9z, hl8, hl9, hHeld⟩
                · skip
                  go_simp
                  have hS1 := bl_alloc hHeld (.cells (row4 nilW) 51)
                  have h8 := H4.new wv12 nilW
                  have hl8 := hHeld.size
                  have h9n := h9.alloc (.cells (row4 nilW) 51)
                  have hlt := h9.lt
                  clear h9
                  have h9 := h9n
                  clear h9n
                  refine hK.out _ _ hS1 (fun hHeld => ?_)
                  clear hK K hS1
                  generalize wv12.alloc (.cells (row4 nilW) 51) = wv15 at *
                  generalize wv12.heap.size = b8 at *
                  have h89 : b8 ≠ b9 := by omega
                  clear hlt
                  try simp only [zzA, zzB, zzC, Act.put, zzD, zzE, zzF]
                  refine wpAnyH_ready (rs := [7]) (by kernel_rfl) (by simp) (AllReadyH.cons rfl (fun K hK => ?_) AllReadyH.nil)
                  go_simp
                  go_at_call 82
                  refine (less_any c.f e.set.f _).mono ?_
                  rintro e1 wv16 ⟨rfl, hb⟩
                  have hS1 := bl_trans hHeld hb
                  have h8n := h8.below hb
                  clear h8
                  have h8 := h8n
                  clear h8n
                  have h9n := h9.below hb
                  clear h9
                  have h9 := h9n
                  clear h9n
                  clear hHeld hb
                  go_wp2_with fail
                  refine hK.out _ _ hS1 (fun hHeld => ?_)
                  clear hK K hS1
                  try simp only [zzA, zzB, zzC, Act.put, zzD, zzE, zzF]
                  refine wpAnyH_ready (rs := [10]) (by kernel_rfl) (by simp) (AllReadyH.cons rfl (fun K hK => ?_) AllReadyH.nil)
                  rw [if_pos (by rfl)]
                  refine wp_store_row 51 _ _ rfl b8 (row4 (andW c.f e.set.f)) rfl rfl _ _ h8 (by rw [size4, row4_size]) (by rw [row4_size, row4_size]) (row4_one _) ?_
                  have hS1 := bl_setRow hHeld hl8 (row4 (andW c.f e.set.f))
                  have h9n := h9.row (fun e => h89 e.symm) (row4 (andW c.f e.set.f))
                  have h8n : H4 _ b8 (bothS c e.set).f := (h8.laid (f' := andW c.f e.set.f)).congr (s4_f _).symm
                  clear h8 h9
                  refine hK.out _ _ hS1 (fun hHeld => ?_)
                  clear hK K hS1
                  try simp only [zzA, zzB, zzC, Act.put, zzD, zzE, zzF]
                  refine wpAnyH_ready (rs := [11]) (by kernel_rfl) (by simp) (AllReadyH.cons rfl (fun K hK => ?_) AllReadyH.nil)
                  rw [if_pos (by rfl)]
                  refine wp_store_row 51 _ _ rfl b9 (row4 (andW c.f (notW e.set.f))) rfl rfl _ _ h9n (by rw [size4, row4_size]) (by rw [row4_size, row4_size]) (row4_one _) ?_
                  have hS1 := bl_setRow hHeld hl9 (row4 (andW c.f (notW e.set.f)))
                  have h8z := h8n.row h89 (row4 (andW c.f (notW e.set.f)))
                  have h9z : H4 _ b9 (offS c e.set).f := (h9n.laid (f' := andW c.f (notW e.set.f))).congr (s4_f _).symm
                  clear h8n h9n
                  refine hK.out _ _ hS1 (fun hHeld => ?_)
                  clear hK K hS1
                  try simp only [zzA, zzB, zzC, Act.put, zzD, zzE, zzF]
                  refine wpAnyH_done (by kernel_rfl) ?_ _
                  go_wp2_with fail
                  go_meet
                  exact ⟨b8, b9, rfl, rfl, h8z, h9z, hl8, hl9, hHeld⟩
            · skip
              go_simp
              have hS1 := bl_alloc hHeld (.cells (row4 nilW) 51)
              have h8 := H4.new wd nilW
              have hl8 := hHeld.size
              refine hK.out _ _ hS1 (fun hHeld => ?_)
              clear hK K hS1
              generalize wd.alloc (.cells (row4 nilW) 51) = wv17 at *
              generalize wd.heap.size = b8 at *
              try simp only [zzA, zzB, zzC, Act.put, zzD, zzE, zzF]
              refine wpAnyH_ready (rs := [3, 9]) (by kernel_rfl) (by simp) (AllReadyH.cons rfl (fun K hK => ?_) (AllReadyH.cons rfl (fun K hK => ?_) AllReadyH.nil))
              · skip
                go_simp
                go_at_call 81
                refine (both_any c.f e.set.f _).mono ?_
                rintro e1 wv18 ⟨rfl, hb⟩
                have hS1 := bl_trans hHeld hb
                have h8n := h8.below hb
                clear h8
                have h8 := h8n
                clear h8n
                clear hHeld hb
                go_wp2_with fail
                refine hK.out _ _ hS1 (fun hHeld => ?_)
                clear hK K hS1
                try simp only [zzA, zzB, zzC, Act.put, zzD, zzE, zzF]
                refine wpAnyH_ready (rs := [7, 9]) (by kernel_rfl) (by simp) (AllReadyH.cons rfl (fun K hK => ?_) (AllReadyH.cons rfl (fun K hK => ?_) AllReadyH.nil))
                · skip
                  go_simp
                  go_at_call 82
                  refine (less_any c.f e.set.f _).mono ?_
                  rintro e1 wv19 ⟨rfl, hb⟩
                  have hS1 := bl_trans hHeld hb
                  have h8n := h8.below hb
                  clear h8
                  have h8 := h8n
                  clear h8n
                  clear hHeld hb
                  go_wp2_with fail
                  refine hK.out _ _ hS1 (fun hHeld => ?_)
                  clear hK K hS1
                  try simp only [zzA, zzB, zzC, Act.put, zzD, zzE, zzF]
                  refine wpAnyH_ready (rs := [9]) (by kernel_rfl) (by simp) (AllReadyH.cons rfl (fun K hK => ?_) AllReadyH.nil)
                  go_simp
                  have hS1 := bl_alloc hHeld (.cells (row4 nilW) 51)
                  have h9 := H4.new wv19 nilW
                  have hl9 := hHeld.size
                  have h8n := h8.alloc (.cells (row4 nilW) 51)
                  have hlt := h8.lt
                  clear h8
                  have h8 := h8n
                  clear h8n
                  refine hK.out _ _ hS1 (fun hHeld => ?_)
                  clear hK K hS1
                  generalize wv19.alloc (.cells (row4 nilW) 51) = wv20 at *
                  generalize wv19.heap.size = b9 at *
                  have h89 : b8 ≠ b9 := by omega
                  clear hlt
                  try simp only [zzA, zzB, zzC, Act.put, zzD, zzE, zzF]
                  refine wpAnyH_ready (rs := [10]) (by kernel_rfl) (by simp) (AllReadyH.cons rfl (fun K hK => ?_) AllReadyH.nil)
                  rw [if_pos (by rfl)]
                  refine wp_store_row 51 _ _ rfl b8 (row4 (andW c.f e.set.f)) rfl rfl _ _ h8 (by rw [size4, row4_size]) (by rw [row4_size, row4_size]) (row4_one _) ?_
                  have hS1 := bl_setRow hHeld hl8 (row4 (andW c.f e.set.f))
                  have h9n := h9.row (fun e => h89 e.symm) (row4 (andW c.f e.set.f))
                  have h8n : H4 _ b8 (bothS c e.set).f := (h8.laid (f' := andW c.f e.set.f)).congr (s4_f _).symm
                  clear h8 h9
                  refine hK.out _ _ hS1 (fun hHeld => ?_)
                  clear hK K hS1
                  try simp only [zzA, zzB, zzC, Act.put, zzD, zzE, zzF]
                  refine wpAnyH_ready (rs := [11]) (by kernel_rfl) (by simp) (AllReadyH.cons rfl (fun K hK => ?_) AllReadyH.nil)
                  rw [if_pos (by rfl)]
                  refine wp_store_row 51 _ _ rfl b9 (row4 (andW c.f (notW e.set.f))) rfl rfl _ _ h9n (by rw [size4, row4_size]) (by rw [row4_size, row4_size]) (row4_one _) ?_
                  have hS1 := bl_setRow hHeld hl9 (row4 (andW c.f (notW e.set.f)))
                  have h8z := h8n.row h89 (row4 (andW c.f (notW e.set.f)))
                  have h9z : H4 _ b9 (offS c e.set).f := (h9n.laid (f' := andW c.f (notW e.set.f))).congr (s4_f _).symm
                  clear h8n h9n
                  refine hK.out _ _ hS1 (fun hHeld => ?_)
                  clear hK K hS1
                  try simp only [zzA, zzB, zzC, Act.put, zzD, zzE, zzF]
                  refine wpAnyH_done (by kernel_rfl) ?_ _
                  go_wp2_with fail
                  go_meet
                  exact ⟨b8, b9, rfl, rfl, h8z, h9z, hl8, hl9, hHeld⟩
                · skip
                  go_simp
                  have hS1 := bl_alloc hHeld (.cells (row4 nilW) 51)
                  have h9 := H4.new wv18 nilW
                  have hl9 := hHeld.size
                  have h8n := h8.alloc (.cells (row4 nilW) 51)
                  have hlt := h8.lt
                  clear h8
                  have h8 := h8n
                  clear h8n
                  refine hK.out _ _ hS1 (fun hHeld => ?_)
                  clear hK K hS1
                  generalize wv18.alloc (.cells (row4 nilW) 51) = wv21 at *
                  generalize wv18.heap.size = b9 at *
                  have h89 : b8 ≠ b9 := by omega
                  clear hlt
                  try simp only [zzA, zzB, zzC, Act.put, zzD, zzE, zzF]
                  refine wpAnyH_ready (rs := [7]) (by kernel_rfl) (by simp) (AllReadyH.cons rfl (fun K hK => ?_) AllReadyH.nil)
                  go_simp
                  go_at_call 82
                  refine (less_any c.f e.set.f _).mono ?_
                  rintro e1 wv22 ⟨rfl, hb⟩
                  have hS1 := bl_trans hHeld hb
                  have h8n := h8.below hb
                  clear h8
                  have h8 := h8n
                  clear h8n
                  have h9n := h9.below hb
                  clear h9
                  have h9 := h9n
                  clear h9n
                  clear hHeld hb
                  go_wp2_with fail
                  refine hK.out _ _ hS1 (fun hHeld => ?_)
                  clear hK K hS1
                  try simp only [zzA, zzB, zzC, Act.put, zzD, zzE, zzF]
                  refine wpAnyH_ready (rs := [10]) (by kernel_rfl) (by simp) (AllReadyH.cons rfl (fun K hK => ?_) AllReadyH.nil)
                  rw [if_pos (by rfl)]
                  refine wp_store_row 51 _ _ rfl b8 (row4 (andW c.f e.set.f)) rfl rfl _ _ h8 (by rw [size4, row4_size]) (by rw [row4_size, row4_size]) (row4_one _) ?_
                  have hS1 := bl_setRow hHeld hl8 (row4 (andW c.f e.set.f))
                  have h9n := h9.row (fun e => h89 e.symm) (row4 (andW c.f e.set.f))
                  have h8n : H4 _ b8 (bothS c e.set).f := (h8.laid (f' := andW c.f e.set.f)).congr (s4_f _).symm
                  clear h8 h9
                  refine hK.out _ _ hS1 (fun hHeld => ?_)
                  clear hK K hS1
                  try simp only [zzA, zzB, zzC, Act.put, zzD, zzE, zzF]
                  refine wpAnyH_ready (rs := [11]) (by kernel_rfl) (by simp) (AllReadyH.cons rfl (fun K hK => ?_) AllReadyH.nil)
                  rw [if_pos (by rfl)]
                  refine wp_store_row 51 _ _ rfl b9 (row4 (andW c.f (notW e.set.f))) rfl rfl _ _ h9n (by rw [size4, row4_size]) (by rw [row4_size, row4_size]) (row4_one _) ?_
                  have hS1 := bl_setRow hHeld hl9 (row4 (andW c.f (notW e.set.f)))
                  have h8z := h8n.row h89 (row4 (andW c.f (notW e.set.f)))
                  have h9z : H4 _ b9 (offS c e.set).f := (h9n.laid (f' := andW c.f (notW e.set.f))).congr (s4_f _).symm
                  clear h8n h9n
                  refine hK.out _ _ hS1 (fun hHeld => ?_)
                  clear hK K hS1
                  try simp only [zzA, zzB, zzC, Act.put, zzD, zzE, zzF]
                  refine wpAnyH_done (by kernel_rfl) ?_ _
                  go_wp2_with fail
                  go_meet
                  exact ⟨b8, b9, rfl, rfl, h8z, h9z, hl8, hl9, hHeld⟩
              · skip
                go_simp
                have hS1 := bl_alloc hHeld (.cells (row4 nilW) 51)
                have h9 := H4.new wv17 nilW
                have hl9 := hHeld.size
                have h8n := h8.alloc (.cells (row4 nilW) 51)
                have hlt := h8.lt
                clear h8
                have h8 := h8n
                clear h8n
                refine hK.out _ _ hS1 (fun hHeld => ?_)
                clear hK K hS1
                generalize wv17.alloc (.cells (row4 nilW) 51) = wv23 at *
                generalize wv17.heap.size = b9 at *
                have h89 : b8 ≠ b9 := by omega
                clear hlt
                try simp only [zzA, zzB, zzC, Act.put, zzD, zzE, zzF]
                refine wpAnyH_ready (rs := [3]) (by kernel_rfl) (by simp) (AllReadyH.cons rfl (fun K hK => ?_) AllReadyH.nil)
                go_simp
                go_at_call 81
                refine (both_any c.f e.set.f _).mono ?_
                rintro e1 wv24 ⟨rfl, hb⟩
                have hS1 := bl_trans hHeld hb
                have h8n := h8.below hb
                clear h8
                have h8 := h8n
                clear h8n
                have h9n := h9.below hb
                clear h9
                have h9 := h9n
                clear h9n
                clear hHeld hb
                go_wp2_with fail
                refine hK.out _ _ hS1 (fun hHeld => ?_)
                clear hK K hS1
                try simp only [zzA, zzB, zzC, Act.put, zzD, zzE, zzF]
                refine wpAnyH_ready (rs := [7]) (by kernel_rfl) (by simp) (AllReadyH.cons rfl (fun K hK => ?_) AllReadyH.nil)
                go_simp
                go_at_call 82
                refine (less_any c.f e.set.f _).mono ?_
                rintro e1 wv25 ⟨rfl, hb⟩
                have hS1 := bl_trans hHeld hb
                have h8n := h8.below hb
                clear h8
                have h8 := h8n
                clear h8n
                have h9n := h9.below hb
                clear h9
                have h9 := h9n
                clear h9n
                clear hHeld hb
                go_wp2_with fail
                refine hK.out _ _ hS1 (fun hHeld => ?_)
                clear hK K hS1
                try simp only [zzA, zzB, zzC, Act.put, zzD, zzE, zzF]
                refine wpAnyH_ready (rs := [10]) (by kernel_rfl) (by simp) (AllReadyH.cons rfl (fun K hK => ?_) AllReadyH.nil)
                rw [if_pos (by rfl)]
                refine wp_store_row 51 _ _ rfl b8 (row4 (andW c.f e.set.f)) rfl rfl _ _ h8 (by rw [size4, row4_size]) (by rw [row4_size, row4_size]) (row4_one _) ?_
                have hS1 := bl_setRow hHeld hl8 (row4 (andW c.f e.set.f))
                have h9n := h9.row (fun e => h89 e.symm) (row4 (andW c.f e.set.f))
                have h8n : H4 _ b8 (bothS c e.set).f := (h8.laid (f' := andW c.f e.set.f)).congr (s4_f _).symm
                clear h8 h9
                refine hK.out _ _ hS1 (fun hHeld => ?_)
                clear hK K hS1
                try simp only [zzA, zzB, zzC, Act.put, zzD, zzE, zzF]
                refine wpAnyH_ready (rs := [11]) (by kernel_rfl) (by simp) (AllReadyH.cons rfl (fun K hK => ?_) AllReadyH.nil)
                rw [if_pos (by rfl)]
                refine wp_store_row 51 _ _ rfl b9 (row4 (andW c.f (notW e.set.f))) rfl rfl _ _ h9n (by rw [size4, row4_size]) (by rw [row4_size, row4_size]) (row4_one _) ?_
                have hS1 := bl_setRow hHeld hl9 (row4 (andW c.f (notW e.set.f)))
                have h8z := h8n.row h89 (row4 (andW c.f (notW e.set.f)))
                have h9z : H4 _ b9 (offS c e.set).f := (h9n.laid (f' := andW c.f (notW e.set.f))).congr (s4_f _).symm
                clear h8n h9n
                refine hK.out _ _ hS1 (fun hHeld => ?_)
                clear hK K hS1
                try simp only [zzA, zzB, zzC, Act.put, zzD, zzE, zzF]
                refine wpAnyH_done (by kernel_rfl) ?_ _
                go_wp2_with fail
                go_meet
                exact ⟨b8, b9, rfl, rfl, h8z, h9z, hl8, hl9, hHeld⟩
            · skip
              go_simp
              have hS1 := bl_alloc hHeld (.cells (row4 nilW) 51)
              have h9 := H4.new wd nilW
              have hl9 := hHeld.size
              refine hK.out _ _ hS1 (fun hHeld => ?_)
              clear hK K hS1
              generalize wd.alloc (.cells (row4 nilW) 51) = wv26 at *
              generalize wd.heap.size = b9 at *
              try simp only [zzA, zzB, zzC, Act.put, zzD, zzE, zzF]
              refine wpAnyH_ready (rs := [3, 8]) (by kernel_rfl) (by simp) (AllReadyH.cons rfl (fun K hK => ?_) (AllReadyH.cons rfl (fun K hK => ?_) AllReadyH.nil))
              · skip
                go_simp
                go_at_call 81
                refine (both_any c.f e.set.f _).mono ?_
                rintro e1 wv27 ⟨rfl, hb⟩
                have hS1 := bl_trans hHeld hb
                have h9n := h9.below hb
                clear h9
                have h9 := h9n
                clear h9n
                clear hHeld hb
                go_wp2_with fail
                refine hK.out _ _ hS1 (fun hHeld => ?_)
                clear hK K hS1
                try simp only [zzA, zzB, zzC, Act.put, zzD, zzE, zzF]
                refine wpAnyH_ready (rs := [7, 8]) (by kernel_rfl) (by simp) (AllReadyH.cons rfl (fun K hK => ?_) (AllReadyH.cons rfl (fun K hK => ?_) AllReadyH.nil))
                · skip
                  go_simp
                  go_at_call 82
                  refine (less_any c.f e.set.f _).mono ?_
                  rintro e1 wv28 ⟨rfl, hb⟩
                  have hS1 := bl_trans hHeld hb
                  have h9n := h9.below hb
                  clear h9
                  have h9 := h9n
                  clear h9n
                  clear hHeld hb
                  go_wp2_with fail
                  refine hK.out _ _ hS1 (fun hHeld => ?_)
                  clear hK K hS1
                  try simp only [zzA, zzB, zzC, Act.put, zzD, zzE, zzF]
                  refine wpAnyH_ready (rs := [8]) (by kernel_rfl) (by simp) (AllReadyH.cons rfl (fun K hK => ?_) AllReadyH.nil)
                  go_simp
                  have hS1 := bl_alloc hHeld (.cells (row4 nilW) 51)
                  have h8 := H4.new wv28 nilW
                  have hl8 := hHeld.size
                  have h9n := h9.alloc (.cells (row4 nilW) 51)
                  have hlt := h9.lt
                  clear h9
                  have h9 := h9n
                  clear h9n
                  refine hK.out _ _ hS1 (fun hHeld => ?_)
                  clear hK K hS1
                  generalize wv28.alloc (.cells (row4 nilW) 51) = wv29 at *
                  generalize wv28.heap.size = b8 at *
                  have h89 : b8 ≠ b9 := by omega
                  clear hlt
                  try simp only [zzA, zzB, zzC, Act.put, zzD, zzE, zzF]
                  refine wpAnyH_ready (rs := [10]) (by kernel_rfl) (by simp) (AllReadyH.cons rfl (fun K hK => ?_) AllReadyH.nil)
                  rw [if_pos (by rfl)]
                  refine wp_store_row 51 _ _ rfl b8 (row4 (andW c.f e.set.f)) rfl rfl _ _ h8 (by rw [size4, row4_size]) (by rw [row4_size, row4_size]) (row4_one _) ?_
                  have hS1 := bl_setRow hHeld hl8 (row4 (andW c.f e.set.f))
                  have h9n := h9.row (fun e => h89 e.symm) (row4 (andW c.f e.set.f))
                  have h8n : H4 _ b8 (bothS c e.set).f := (h8.laid (f' := andW c.f e.set.f)).congr (s4_f _).symm
                  clear h8 h9
                  refine hK.out _ _ hS1 (fun hHeld => ?_)
                  clear hK K hS1
                  try simp only [zzA, zzB, zzC, Act.put, zzD, zzE, zzF]
                  refine wpAnyH_ready (rs := [11]) (by kernel_rfl) (by simp) (AllReadyH.cons rfl (fun K hK => ?_) AllReadyH.nil)
                  rw [if_pos (by rfl)]
                  refine wp_store_row 51 _ _ rfl b9 (row4 (andW c.f (notW e.set.f))) rfl rfl _ _ h9n (by rw [size4, row4_size]) (by rw [row4_size, row4_size]) (row4_one _) ?_
                  have hS1 := bl_setRow hHeld hl9 (row4 (andW c.f (notW e.set.f)))
                  have h8z := h8n.row h89 (row4 (andW c.f (notW e.set.f)))
                  have h9z : H4 _ b9 (offS c e.set).f := (h9n.laid (f' := andW c.f (notW e.set.f))).congr (s4_f _).symm
                  clear h8n h9n
                  refine hK.out _ _ hS1 (fun hHeld => ?_)
                  clear hK K hS1
                  try simp only [zzA, zzB, zzC, Act.put, zzD, zzE, zzF]
                  refine wpAnyH_done (by kernel_rfl) ?_ _
                  go_wp2_with fail
                  go_meet
                  exact ⟨b8, b9, rfl, rfl, h8z, h9z, hl8, hl9, hHeld⟩
                · skip
                  go_simp
                  have hS1 := bl_alloc hHeld (.cells (row4 nilW) 51)
                  have h8 := H4.new wv27 nilW
                  have hl8 := hHeld.size
                  have h9n := h9.alloc (.cells (row4 nilW) 51)
                  have hlt := h9.lt
                  clear h9
                  have h9 := h9n
                  clear h9n
                  refine hK.out _ _ hS1 (fun hHeld => ?_)
                  clear hK K hS1
                  generalize wv27.alloc (.cells (row4 nilW) 51) = wv30 at *
                  generalize wv27.heap.size = b8 at *
                  have h89 : b8 ≠ b9 := by omega
                  clear hlt
                  try simp only [zzA, zzB, zzC, Act.put, zzD, zzE, zzF]
                  refine wpAnyH_ready (rs := [7]) (by kernel_rfl) (by simp) (AllReadyH.cons rfl (fun K hK => ?_) AllReadyH.nil)
                  go_simp
                  go_at_call 82
                  refine (less_any c.f e.set.f _).mono ?_
                  rintro e1 wv31 ⟨rfl, hb⟩
                  have hS1 := bl_trans hHeld hb
                  have h8n := h8.below hb
                  clear h8
                  have h8 := h8n
                  clear h8n
                  have h9n := h9.below hb
                  clear h9
                  have h9 := h9n
                  clear h9n
                  clear hHeld hb
                  go_wp2_with fail
                  refine hK.out _ _ hS1 (fun hHeld => ?_)
                  clear hK K hS1
                  try simp only [zzA, zzB, zzC, Act.put, zzD, zzE, zzF]
                  refine wpAnyH_ready (rs := [10]) (by kernel_rfl) (by simp) (AllReadyH.cons rfl (fun K hK => ?_) AllReadyH.nil)
                  rw [if_pos (by rfl)]
                  refine wp_store_row 51 _ _ rfl b8 (row4 (andW c.f e.set.f)) rfl rfl _ _ h8 (by rw [size4, row4_size]) (by rw [row4_size, row4_size]) (row4_one _) ?_
                  have hS1 := bl_setRow hHeld hl8 (row4 (andW c.f e.set.f))
                  have h9n := h9.row (fun e => h89 e.symm) (row4 (andW c.f e.set.f))
                  have h8n : H4 _ b8 (bothS c e.set).f := (h8.laid (f' := andW c.f e.set.f)).congr (s4_f _).symm
                  clear h8 h9
                  refine hK.out _ _ hS1 (fun hHeld => ?_)
                  clear hK K hS1
                  try simp only [zzA, zzB, zzC, Act.put, zzD, zzE, zzF]
                  refine wpAnyH_ready (rs := [11]) (by kernel_rfl) (by simp) (AllReadyH.cons rfl (fun K hK => ?_) AllReadyH.nil)
                  rw [if_pos (by rfl)]
                  refine wp_store_row 51 _ _ rfl b9 (row4 (andW c.f (notW e.set.f))) rfl rfl _ _ h9n (by rw [size4, row4_size]) (by rw [row4_size, row4_size]) (row4_one _) ?_
                  have hS1 := bl_setRow hHeld hl9 (row4 (andW c.f (notW e.set.f)))
                  have h8z := h8n.row h89 (row4 (andW c.f (notW e.set.f)))
                  have h9z : H4 _ b9 (offS c e.set).f := (h9n.laid (f' := andW c.f (notW e.set.f))).congr (s4_f _).symm
                  clear h8n h9n
                  refine hK.out _ _ hS1 (fun hHeld => ?_)
                  clear hK K hS1
                  try simp only [zzA, zzB, zzC, Act.put, zzD, zzE, zzF]
                  refine wpAnyH_done (by kernel_rfl) ?_ _
                  go_wp2_with fail
                  go_meet
                  exact ⟨b8, b9, rfl, rfl, h8z, h9z, hl8, hl9, hHeld⟩
              · skip
                go_simp
                have hS1 := bl_alloc hHeld (.cells (row4 nilW) 51)
                have h8 := H4.new wv26 nilW
                have hl8 := hHeld.size
                have h9n := h9.alloc (.cells (row4 nilW) 51)
                have hlt := h9.lt
                clear h9
                have h9 := h9n
                clear h9n
                refine hK.out _ _ hS1 (fun hHeld => ?_)
                clear hK K hS1
                generalize wv26.alloc (.cells (row4 nilW) 51) = wv32 at *
                generalize wv26.heap.size = b8 at *
                have h89 : b8 ≠ b9 := by omega
                clear hlt
                try simp only [zzA, zzB, zzC, Act.put, zzD, zzE, zzF]
                refine wpAnyH_ready (rs := [3]) (by kernel_rfl) (by simp) (AllReadyH.cons rfl (fun K hK => ?_) AllReadyH.nil)
                go_simp
                go_at_call 81
                refine (both_any c.f e.set.f _).mono ?_
                rintro e1 wv33 ⟨rfl, hb⟩
                have hS1 := bl_trans hHeld hb
                have h8n := h8.below hb
                clear h8
                have h8 := h8n
                clear h8n
                have h9n := h9.below hb
                clear h9
                have h9 := h9n
                clear h9n
                clear hHeld hb
                go_wp2_with fail
                refine hK.out _ _ hS1 (fun hHeld => ?_)
                clear hK K hS1
                try simp only [zzA, zzB, zzC, Act.put, zzD, zzE, zzF]
                refine wpAnyH_ready (rs := [7]) (by kernel_rfl) (by simp) (AllReadyH.cons rfl (fun K hK => ?_) AllReadyH.nil)
                go_simp
                go_at_call 82
                refine (less_any c.f e.set.f _).mono ?_
                rintro e1 wv34 ⟨rfl, hb⟩
                have hS1 := bl_trans hHeld hb
                have h8n := h8.below hb
                clear h8
                have h8 := h8n
                clear h8n
                have h9n := h9.below hb
                clear h9
                have h9 := h9n
                clear h9n
                clear hHeld hb
                go_wp2_with fail
                refine hK.out _ _ hS1 (fun hHeld => ?_)
                clear hK K hS1
                try simp only [zzA, zzB, zzC, Act.put, zzD, zzE, zzF]
                refine wpAnyH_ready (rs := [10]) (by kernel_rfl) (by simp) (AllReadyH.cons rfl (fun K hK => ?_) AllReadyH.nil)
                rw [if_pos (by rfl)]
                refine wp_store_row 51 _ _ rfl b8 (row4 (andW c.f e.set.f)) rfl rfl _ _ h8 (by rw [size4, row4_size]) (by rw [row4_size, row4_size]) (row4_one _) ?_
                have hS1 := bl_setRow hHeld hl8 (row4 (andW c.f e.set.f))
                have h9n := h9.row (fun e => h89 e.symm) (row4 (andW c.f e.set.f))
                have h8n : H4 _ b8 (bothS c e.set).f := (h8.laid (f' := andW c.f e.set.f)).congr (s4_f _).symm
                clear h8 h9
                refine hK.out _ _ hS1 (fun hHeld => ?_)
                clear hK K hS1
                try simp only [zzA, zzB, zzC, Act.put, zzD, zzE, zzF]
                refine wpAnyH_ready (rs := [11]) (by kernel_rfl) (by simp) (AllReadyH.cons rfl (fun K hK => ?_) AllReadyH.nil)
                rw [if_pos (by rfl)]
                refine wp_store_row 51 _ _ rfl b9 (row4 (andW c.f (notW e.set.f))) rfl rfl _ _ h9n (by rw [size4, row4_size]) (by rw [row4_size, row4_size]) (row4_one _) ?_
                have hS1 := bl_setRow hHeld hl9 (row4 (andW c.f (notW e.set.f)))
                have h8z := h8n.row h89 (row4 (andW c.f (notW e.set.f)))
                have h9z : H4 _ b9 (offS c e.set).f := (h9n.laid (f' := andW c.f (notW e.set.f))).congr (s4_f _).symm
                clear h8n h9n
                refine hK.out _ _ hS1 (fun hHeld => ?_)
                clear hK K hS1
                try simp only [zzA, zzB, zzC, Act.put, zzD, zzE, zzF]
                refine wpAnyH_done (by kernel_rfl) ?_ _
                go_wp2_with fail
                go_meet
                exact ⟨b8, b9, rfl, rfl, h8z, h9z, hl8, hl9, hHeld⟩
          case rest =>
            obtain ⟨b8, b9, rfl, rfl, H8, H9, hl8, hl9, hbx⟩ := hcut
            have OK3 := Lib.hid (OK2.out.below hbx)
            have HD3 := Lib.hid (HD2.out.below (by have := HGA.out.1; have := SZ2.out; omega) hbx)
            have K53 := Lib.hid ((hbx.block b5 (Array.getElem?_eq_some_iff.1 K52.out).1).trans K52.out)
            have BK3 := Lib.hid (bl_trans BK2.out hbx)
            have SZ3 := Lib.hid (Nat.le_trans SZ2.out hbx.size)
            have H8' := Lib.hid H8
            have H9' := Lib.hid H9
            have HB9 := Lib.hid (show b9 ≠ g' from by have := (World.ownsRow.lt OK2.out g' rfl).2; omega)
            have HKN2 := Lib.hid (show k < n' from by have := HKN.out; have := HLk.out; omega)
            clear hl8 hl9 hbx OK2 HD2 K52 BK2 SZ2 H8 H9 H7
            by_cases hb1 : bothS c e.set = nilS
            · have hs := same_sets ((eq4_nil _).2 hb1)
              have hcut : cutsS c e.set = false := by unfold cutsS; simp [hb1]
              have HE := Lib.hid (HNO.out hcut)
              have HF2 := Lib.hid HFR.out
              clear hb1 hcut
              go_wp2_with (refine wpList_load_row rfl 51 _ rfl b8 rfl 51 _ (0, 0) _ H8'.out Tryz.underlying51 rfl (by rw [size4, row4_size]) ?_)
              exact ⟨⟨k + 1, g', n', cap', by omega, by go_num, rfl, by rw [HE.out]; exact HLk.out, by rw [HE.out]; exact OK3.out, fun i hi hki => HD3.out i hi (by omega), K53.out, BK3.out, SZ3.out⟩, by simp [intOf]; omega⟩
            · have hs := other_sets (fun h => hb1 ((eq4_nil _).1 h))
              by_cases hb2 : offS c e.set = nilS
              · have hs2 := same_sets ((eq4_nil _).2 hb2)
                have hcut : cutsS c e.set = false := by unfold cutsS; simp [hb2]
                have HE := Lib.hid (HNO.out hcut)
                clear hb1 hb2 hcut
                go_wp2_with (first | (refine wpList_load_row rfl 51 _ rfl b8 rfl 51 _ (0, 0) _ H8'.out Tryz.underlying51 rfl (by rw [size4, row4_size]) ?_) | (refine wpList_load_setG (by rfl) _ rfl b9 rfl _ H9'.out ?_))
                exact ⟨⟨k + 1, g', n', cap', by omega, by go_num, rfl, by rw [HE.out]; exact HLk.out, by rw [HE.out]; exact OK3.out, fun i hi hki => HD3.out i hi (by omega), K53.out, BK3.out, SZ3.out⟩, by simp [intOf]; omega⟩
              · have hs2 := other_sets (fun h => hb2 ((eq4_nil _).1 h))
                have hcut : cutsS c e.set = true := cuts_iff.2 ⟨hb1, hb2⟩
                have HE := Lib.hid (HYES.out hcut)
                clear hb1 hb2 hcut
                have hkn2 := HKN2.out
                have hww : W.heap.size ≤ wc.heap.size := BK3.out.size
                generalize hos : offS c e.set = os at *
                go_wp2_with (first | (refine wpList_load_row rfl 51 _ rfl b8 rfl 51 _ (0, 0) _ H8'.out Tryz.underlying51 rfl (by rw [size4, row4_size]) ?_) | (refine wpList_load_setG (by rfl) _ rfl b9 rfl _ H9'.out ?_) |
                  (refine wpList_store_set _ rfl _ _ rfl W.heap.size g' n' cap' _ OK3.out k HKN.out rfl (bothS c e.set) rfl ?_; intro w4 ho4 hg4; have hx9 := h4_list (h4_far H9'.out hg4 HB9.out)) |
                  (refine wpList_load_part 51 4 _ rfl rfl ⟨b9, 0, none⟩ rfl [.int .u64 (os.w0.toNat : Int), .int .u64 (os.w1.toNat : Int), .int .u64 (os.w2.toNat : Int), .int .u64 (os.w3.toNat : Int)] (by kernel_rfl) (by kernel_rfl) rfl hx9 ?_) |
                  (at_builtin; refine wpList_append_set _ (by rfl) _ _ rfl W.heap.size g' n' cap' ((stS L e.set k).set k (bothS c e.set)) rfl (ho4.below (bl_alloc (Below.refl w4.heap.size w4) (.cells #[.int .u64 (os.w0.toNat : Int), .int .u64 (os.w1.toNat : Int), .int .u64 (os.w2.toNat : Int), .int .u64 (os.w3.toNat : Int)] 51))) (by rw [List.length_set]; exact HLk.out) ⟨w4.heap.size, 0, none⟩ 1 os rfl (lit_cells w4 os) (by have := HNL.out; omega) (by have := hg4.size; simp; omega) ?_; intro g6 cap6 w6 ho6 hg6))
                have hge : HeadS w4 g (k + 1) L := HD3.out.next hg4 (Or.inl rfl) (by have := HGA.out.1; have := SZ3.out; omega) (Nat.le_succ k) ho4 (fun i hi hki => by
                  have h := HFR.out i hi hki
                  rw [HE.out, List.getElem?_append_left (by rw [List.length_set]; have := HKN.out; have := HLn.out; have := (stS_len L e.set (k := k) (by omega)).1; omega)] at h
                  exact h)
                have hgA := bl_alloc (Below.refl w4.heap.size w4) (.cells #[.int .u64 (os.w0.toNat : Int), .int .u64 (os.w1.toNat : Int), .int .u64 (os.w2.toNat : Int), .int .u64 (os.w3.toNat : Int)] 51)
                have hgl4 : g < w4.heap.size := Nat.lt_of_lt_of_le (by have := HGA.out.1; have := SZ3.out; omega) hg4.size
                have hgeA := hge.below hgl4 hgA
                have hnb5 : b5 ≠ g' := by
                  intro e5
                  obtain ⟨g9, cap9, e9, _, _, ⟨cs9, hc9⟩, _⟩ := OK3.out.form (by have := HKN.out; omega)
                  injection e9 with e9 _ _
                  injection e9 with e9
                  injection e9 with e9
                  have hk9 := K53.out
                  rw [e5, e9, hc9] at hk9
                  injection hk9 with hk9
                  injection hk9 with _ hk9 _
                  exact absurd hk9 (by decide)
                have hb5l := (Array.getElem?_eq_some_iff.1 K53.out).1
                have k54 := (hg4.block b5 hb5l (fun e2 => hnb5 (Option.some.inj e2))).trans K53.out
                have k5A := (hgA.block b5 (Array.getElem?_eq_some_iff.1 k54).1).trans k54
                have hwg : W.heap.size ≤ g' := (World.ownsRow.lt OK3.out g' rfl).1
                have bk4 := bl_grown BK3.out hg4 (fun i e2 => by cases e2; exact hwg)
                have bkA := bl_trans bk4 hgA
                have szA : wA.heap.size ≤ (w4.alloc (.cells #[.int .u64 (os.w0.toNat : Int), .int .u64 (os.w1.toNat : Int), .int .u64 (os.w2.toNat : Int), .int .u64 (os.w3.toNat : Int)] 51)).heap.size := Nat.le_trans SZ3.out (Nat.le_trans hg4.size hgA.size)
                generalize w4.alloc (.cells #[.int .u64 (os.w0.toNat : Int), .int .u64 (os.w1.toNat : Int), .int .u64 (os.w2.toNat : Int), .int .u64 (os.w3.toNat : Int)] 51) = w5 at *
                have hgl5 : g < w5.heap.size := Nat.lt_of_lt_of_le hgl4 hgA.size
                have hfr2 : ∀ i (hi : i < L.length), k + 1 ≤ i → ((stS L e.set k).set k (bothS c e.set) ++ [os])[i]? = some L[i] := fun i hi hki => by
                  have h := HFR.out i hi hki
                  rw [HE.out] at h
                  exact h
                have hfin : HeadS w6 g (k + 1) L ∧ w6.heap[b5]? = some (.cells #[.int .i64 e.fr, .int .i64 e.to, .int .u64 (e.set.w0.toNat : Int), .int .u64 (e.set.w1.toNat : Int), .int .u64 (e.set.w2.toNat : Int), .int .u64 (e.set.w3.toNat : Int), .bool e.free] 53 (0, 0)) ∧ Below W.heap.size W w6 ∧ wA.heap.size ≤ w6.heap.size := by
                  have hb5A := (Array.getElem?_eq_some_iff.1 k5A).1
                  rcases hg6 with ⟨e6, hg⟩ | ⟨hsz6, hg⟩
                  · subst e6
                    exact ⟨hgeA.next hg (Or.inl rfl) hgl5 (Nat.le_refl _) ho6 hfr2, (hg.block b5 hb5A (fun e2 => hnb5 (Option.some.inj e2))).trans k5A, bl_grown bkA hg (fun i e2 => by cases e2; exact hwg), Nat.le_trans szA hg.size⟩
                  · exact ⟨hgeA.keep (hg.block g hgl5 (by simp)), (hg.block b5 hb5A (by simp)).trans k5A, bl_grown bkA hg (fun i e2 => by cases e2), Nat.le_trans szA hg.size⟩
                obtain ⟨f1, f2, f3, f4⟩ := hfin
                exact ⟨⟨k + 1, g6, n' + 1, cap6, by omega, by go_num, rfl, by rw [HE.out, List.length_append, List.length_set, HLk.out]; rfl, by rw [HE.out]; exact ho6, f1, f2, f3, f4⟩, by simp [intOf]; omega⟩
        · obtain rfl : k = n := by omega
          rw [stS_all L e.set (by rw [HLn.out]; exact Nat.le_refl _)] at HLk OK
          go_wp2_with fail
          exact ⟨⟨i + 1, _, g', n', cap', by omega, by go_num, rfl, HLk.out, PN.out, OK.out, BK.out⟩, by simp [intOf]; omega⟩
    · obtain rfl : i = ne := by omega
      rw [show E.take i = E from List.take_of_length_le (by rw [HN.out]; exact Nat.le_refl _)] at PT
      have HLL := PT.out.len
      have HSO := Lib.hid (sort_sets W.heap.size L g n cap wr OL.out HLn.out (HT.out.below BW.out) htl.out (by rw [HLn.out] at HLL; omega))
      go_wp2_with fail
      refine HSO.out.mono ?_
      rintro x w9 ⟨rfl, C, hp, hs, ho9, hg9⟩
      have B9 := Lib.hid (bl_grown BW.out hg9 (fun i e2 => by cases e2; exact (World.ownsRow.lt OL.out g rfl).1))
      have O9 := Lib.hid ho9
      have P9 := Lib.hid hp
      have S9 := Lib.hid hs
      clear hp hs ho9 hg9 HSO HLL
      go_wp2_with fail
      refine post_is HQ ⟨C, PT.out.perm P9.out, S9.out, g, n, cap, rfl, by rw [P9.out.length_eq]; exact HLn.out, O9.out, B9.out⟩

end Go.Proofs.YtcgfogdfcdndgaaGreatDoor
