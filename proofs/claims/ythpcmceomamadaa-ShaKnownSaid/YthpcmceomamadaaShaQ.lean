/- Of of the program: a digest. No condition but that the bytes can be read, and are 5000 at most. -/
import Derived.Test.YthpcmceomamadaaShaO
set_option linter.unusedVariables false
set_option linter.unusedSimpArgs false
namespace Go.Proofs.Ythpcmceomamadaa
open Go.RowKit Go.Shelf
attribute [local go_sem] Oper.semAt_some

theorem begin_f (w : World) : Calls Try.prog 15 #[] w (GotF w 8 hW) := begin_any w
theorem roundWords_f (w : World) : Calls Try.prog 35 #[] w (GotF w 64 kW) := roundWords_any w

def tab32 : Array Value := Array.replicate 32 (.int .u8 0)
theorem zero32 (w : World) : (zeroValue 37).run Try.prog w = .ok (.agg tab32) w := by kernel_rfl
theorem size32 : (Try.prog.info? 37).map (·.size) = some 32 := by kernel_rfl
theorem tab32_row : tab32 = rowB 32 (fun _ => 0) := by kernel_rfl

/-- What blocks make of eight words. -/
def foldX {m : Nat} (h : S8) (p : List UInt8) (xs : List (Fin m)) : S8 := xs.foldl (fun s x => blockE s (blockAt p x.1)) h
theorem foldX_snoc {m : Nat} (h : S8) (p : List UInt8) (xs : List (Fin m)) (x : Fin m) : foldX h p (xs ++ [x]) = blockE (foldX h p xs) (blockAt p x.1) := by
  unfold foldX
  rw [List.foldl_append]
  rfl
theorem foldX_take {m : Nat} (h : S8) (p : List UInt8) : ∀ k, k ≤ m → foldX h p ((List.finRange m).take k) = foldE h p k
  | 0, _ => by simp [foldX, foldE]
  | k + 1, hk => by rw [finTake m k (by omega), foldX_snoc, foldX_take h p k (by omega), foldE]
theorem foldX_all {m : Nat} (h : S8) (p : List UInt8) : foldX h p (List.finRange m) = foldE h p m := by
  rw [← finAll, foldX_take h p m (Nat.le_refl _)]

theorem keeps_below {W W' : World} (h : Below W.heap.size W W') : KeepsOthers W W' := ⟨h.size, fun k o hk _ => (h.block k (Array.getElem?_eq_some_iff.1 hk).1).trans hk⟩
theorem keeps_setRow (W : World) (g : Nat) (cs : Array Value) {old : Array Value} {t : TypeId} (hg : W.heap[g]? = some (.cells old t (0, 0))) : KeepsOthers W (W.setRow g cs) :=
  KeepsOthers.of_grownBy (row := some g) ⟨rfl, rfl, rfl, by simp, fun k hk hne => setRow_other _ _ _ _ (fun e => hne (by rw [e]))⟩ (fun j o e hj => by cases e; rw [hg] at hj; cases hj; rfl)
theorem kpX_below {n1 hB : Nat} {W W' : World} (hn : n1 ≤ W.heap.size) (h : Below W.heap.size W W') : KpX n1 hB W W' := fun i h1 _ => h.block i (by omega)
theorem kpX_setRow (n1 g : Nat) (W : World) (cs : Array Value) : KpX n1 g W (W.setRow g cs) := fun i _ h2 => setRow_other _ _ _ _ h2

/-- Bytes that a call made itself, at least one: their block. -/
theorem own_block {W : World} {base : Nat} {v : Value} {l : List UInt8} (h : Own W base v l) (hl : 0 < l.length) : ∃ g c cur, v = .slice (some ⟨g, 0, none⟩) l.length c ∧ base ≤ g ∧ W.heap[g]? = some (.cells cur 5 (0, 0)) ∧ l.length ≤ c ∧ ∀ j (hj : j < l.length), cur[j]? = some (bv l[j]) := by
  rcases h.2 with ⟨_, h0⟩ | ⟨g, cap, cur, hv, hb, hg, hnc, hcm, hsz, htake⟩
  · omega
  · refine ⟨g, cap, cur, hv, hb, hg, hnc, fun j hj => ?_⟩
    have h1 : (cur.toList.take (l.length * 1))[j]? = (l.map bv)[j]? := by
      rw [← htake]
    rw [List.getElem?_take, if_pos (by omega), List.getElem?_map, List.getElem?_eq_getElem hj] at h1
    simpa using h1
/-- A block that a call made, read. -/
theorem rd_row {W : World} {g : Nat} {cur : Array Value} {t : TypeId} {fr : Nat × Nat} {l : List UInt8} (h : W.heap[g]? = some (.cells cur t fr)) (hc : ∀ j (hj : j < l.length), cur[j]? = some (bv l[j])) : Rd W (some ⟨g, 0, none⟩) l := fun _ => by
  refine ⟨_, rfl, fun j hj => ?_⟩
  have e : (⟨g, 0, none⟩ : Addr).add j = ⟨g, j, none⟩ := by unfold Addr.add; split <;> simp_all
  rw [e, cell_of_row W g j cur t fr h]
  exact hc j hj
theorem rd_block {W : World} {ad : Addr} {p : List UInt8} (h : Rd W (some ad) p) (k m : Nat) (hp : p.length = 64 * m) (hk : k < m) : Rd W (some (ad.add (64 * k))) (blockAt p k) ∧ (blockAt p k).length = 64 := by
  have h1 := (h.drop (64 * k) (64 * m) (by omega)).take 64
  rw [if_neg (by omega)] at h1
  exact ⟨h1, by unfold blockAt; rw [List.length_take, List.length_drop]; omega⟩

theorem add_zero_at (g k : Nat) : (⟨g, 0, none⟩ : Addr).add k = ⟨g, k, none⟩ := by unfold Addr.add; split <;> simp_all

theorem byte_val (x : BitVec 32) (t : Nat) : Value.int IntKind.u8 ((x.toNat : Int) / 2 ^ t % 256) = bv (UInt8.ofNat ((x >>> t).toNat % 256)) := by
  unfold bv
  rw [← half32, UInt8.toNat_ofNat']
  congr 1
  omega
theorem upd_ltB (f : Nat → UInt8) (k j : Nat) : (if j < k + 1 then f j else 0) = if j = k then f k else if j < k then f j else 0 := by
  by_cases h : j = k
  · subst h; simp
  · rw [if_neg h]
    by_cases h2 : j < k
    · rw [if_pos h2, if_pos (by omega)]
    · rw [if_neg h2, if_neg (by omega)]

def GotD (w : World) (s : S8) (e : Ending) (w' : World) : Prop := e = .returned (.agg (rowB 32 (byteOf s))) ∧ Below w.heap.size w w'

set_option maxRecDepth 100000 in
set_option maxHeartbeats 4000000 in
theorem of_any (A : Option Addr) (n c : Nat) (l : List UInt8) (w : World) (hl : l.length = n) (hr : Rd w A l) (hn : n ≤ 5000) :
    Calls Try.prog 19 #[.slice A n c] w (GotD w (stateE l)) := by
  have HL := Lib.hid hl
  have HR := Lib.hid hr
  clear hl hr
  have hz := zero32
  have hz8 := zero8
  have hz64 := zero64
  refine (callsIn_wide (n := 6)).1 ?_
  refine callsIn_of_wp_marks Try.func19 rfl trivial ?_ rfl
  simp only [Try.ntmps19, List.size_toArray, List.length_cons, List.length_nil, Nat.reduceAdd, Nat.reduceSub, Array.replicate_succ, Array.replicate_zero, List.push_toArray, List.append_toArray, List.nil_append, List.cons_append]
  gi_wp2_with fail
  refine ⟨trivial, ?_⟩
  refine (callsIn_wide.2 (begin_f _)).mono ?_
  rintro e w1 ⟨rfl, hb1⟩
  gi_wp2_with fail
  refine ⟨trivial, ?_⟩
  refine (callsIn_wide.2 (roundWords_f _)).mono ?_
  rintro e w2 ⟨rfl, hb2⟩
  have hr0 : w2.heap[w.heap.size]? = some (.cells tab32 37) := by
    rw [hb2.block _ (by have := hb1.size; simp at this; omega), hb1.block _ (by simp)]
    exact heap_alloc_new w _
  have hB2 : Below w.heap.size w w2 := bl_trans (bl_trans (bl_alloc (Below.refl _ _) _) hb1) hb2
  have hs2 : w.heap.size < w2.heap.size := by have := hb1.size; have := hb2.size; simp at *; omega
  clear hb1 hb2
  have g1 : ((w2.alloc (.cells tab8 31)).alloc (.cells tab64 57)).heap[w2.heap.size]? = some (.cells tab8 31) := heap_alloc2_old w2 _ _
  have g2 : (((w2.alloc (.cells tab8 31)).alloc (.cells tab64 57)).setRow w2.heap.size (rowF 8 hW)).heap[w2.heap.size + 1]? = some (.cells tab64 57) := by
    rw [setRow_other _ _ _ _ (by omega)]
    exact heap_alloc2_new w2 _ _
  have G1 := Lib.hid g1
  have G2 := Lib.hid g2
  have R0 := Lib.hid hr0
  have B2 := Lib.hid hB2
  clear g1 g2 hr0 hB2
  gi_wp2_with (first
    | (refine wpListIn_store_row rfl 31 _ _ rfl w2.heap.size _ rfl rfl 31 _ G1.out (by rw [size8, rowF_size]) (by rw [rowF_size]; rfl) (rowF_one _ _) ?_)
    | (refine wpListIn_store_row rfl 57 _ _ rfl (w2.heap.size + 1) _ rfl rfl 57 _ G2.out (by rw [size64, rowF_size]) (by rw [rowF_size]; rfl) (rowF_one _ _) ?_))
  have h8 : Hw ((((w2.alloc (.cells tab8 31)).alloc (.cells tab64 57)).setRow w2.heap.size (rowF 8 hW)).setRow (w2.heap.size + 1) (rowF 64 kW)) w2.heap.size 31 8 beginE.get := by
    unfold Hw
    rw [setRow_other _ _ _ _ (by omega), rowF_congr 8 (f := beginE.get) (g := hW) (fun j hj => S8.of_get hW j hj)]
    exact setRow_heap _ _ _ _ _ _ G1.out
  have h64 : Hw ((((w2.alloc (.cells tab8 31)).alloc (.cells tab64 57)).setRow w2.heap.size (rowF 8 hW)).setRow (w2.heap.size + 1) (rowF 64 kW)) (w2.heap.size + 1) 57 64 kW := setRow_heap _ _ _ _ _ _ G2.out
  have hr3 : ((((w2.alloc (.cells tab8 31)).alloc (.cells tab64 57)).setRow w2.heap.size (rowF 8 hW)).setRow (w2.heap.size + 1) (rowF 64 kW)).heap[w.heap.size]? = some (.cells tab32 37) := by
    rw [setRow_other _ _ _ _ (by omega), setRow_other _ _ _ _ (by omega), Below.heap_alloc _ _ _ (by simp; omega), Below.heap_alloc _ _ _ hs2]
    exact R0.out
  have hB3 : Below w.heap.size w ((((w2.alloc (.cells tab8 31)).alloc (.cells tab64 57)).setRow w2.heap.size (rowF 8 hW)).setRow (w2.heap.size + 1) (rowF 64 kW)) := bl_setRow (bl_setRow (bl_alloc (bl_alloc B2.out _) _) (by omega) _) (by omega) _
  have hs3 : ((((w2.alloc (.cells tab8 31)).alloc (.cells tab64 57)).setRow w2.heap.size (rowF 8 hW)).setRow (w2.heap.size + 1) (rowF 64 kW)).heap.size = w2.heap.size + 2 := by simp
  clear G1 G2 R0 B2
  generalize (((w2.alloc (.cells tab8 31)).alloc (.cells tab64 57)).setRow w2.heap.size (rowF 8 hW)).setRow (w2.heap.size + 1) (rowF 64 kW) = w3 at *
  generalize hhB : w2.heap.size = hB at *
  clear hhB w1
  refine ⟨trivial, ?_⟩
  refine (callsIn_wide.2 (pad_any A n c l _ HL.out (HR.out.below hB3) hn)).mono ?_
  rintro e w4 ⟨v4, rfl, ho4, hb4⟩
  obtain ⟨q1, q2, q3⟩ := padN_room l.length
  obtain ⟨g, cp, cur, rfl, hg3, hg4, hnc, hcur⟩ := own_block ho4 (by rw [padE_len]; omega)
  obtain ⟨m, hm⟩ : ∃ m, padN l.length / 64 = m := ⟨_, rfl⟩
  obtain ⟨N, hN⟩ : ∃ N, (padE l).length = N := ⟨_, rfl⟩
  have hNm : N = 64 * m := by rw [← hN, padE_len]; omega
  have hNb : N ≤ 100000 := by rw [← hN, padE_len]; have := HL.out; omega
  have hs4 := hb4.size
  have h8' := h8.below hb4
  have h64' := h64.below hb4
  have hr4 : w4.heap[w.heap.size]? = some (.cells tab32 37) := by rw [hb4.block _ (by omega)]; exact hr3
  have hB4 := bl_trans hB3 hb4
  have hg5 : g < w4.heap.size := (Array.getElem?_eq_some_iff.1 hg4).1
  rw [hN] at hnc ⊢
  have HNm := Lib.hid hNm
  have HNl := Lib.hid hN
  have HM := Lib.hid hm
  have HC := Lib.hid hcur
  have H8 := Lib.hid h8'
  have H64 := Lib.hid h64'
  have HR4 := Lib.hid hr4
  have HB4 := Lib.hid hB4
  have HG := Lib.hid hg4
  clear hNm hN hm hcur h8 h64 h8' h64' hr3 hr4 hB3 hb4 hB4 hg4 ho4 q1 q2 q3
  gi_wp2_with fail
  refine ⟨trivial, ?_⟩
  refine (callsIn_wide.2 (chunk_make (some ⟨g, 0, none⟩) N cp _)).mono ?_
  rintro e w5 ⟨rfl, rfl⟩
  gi_wp2_with fail
  obtain ⟨W0, hW0⟩ : ∃ W0, (w4.alloc (.cells #[.slice (some ⟨g, 0, none⟩) N cp] 28)).alloc (.cells #[.int .i64 64] 3) = W0 := ⟨_, rfl⟩
  have hsW : W0.heap.size = w4.heap.size + 2 := by rw [← hW0]; simp
  have hcs : W0.cell? ⟨w4.heap.size, 0, none⟩ = some (.slice (some ⟨g, 0, none⟩) N cp) := by rw [← hW0]; exact cell_of_row _ _ 0 #[.slice (some ⟨g, 0, none⟩) N cp] 28 (0, 0) (heap_alloc2_old w4 _ _)
  have hcn : W0.cell? ⟨w4.heap.size + 1, 0, none⟩ = some (.int .i64 64) := by rw [← hW0]; exact cell_of_row _ _ 0 #[.int .i64 64] 3 (0, 0) (heap_alloc2_new w4 _ _)
  have i8 : Hw W0 hB 31 8 beginE.get := by rw [← hW0]; exact (H8.out.alloc _).alloc _
  have i64 : Hw W0 (hB + 1) 57 64 kW := by rw [← hW0]; exact (H64.out.alloc _).alloc _
  have ir : W0.heap[w.heap.size]? = some (.cells tab32 37) := by rw [← hW0, Below.heap_alloc _ _ _ (by simp; omega), Below.heap_alloc _ _ _ (by omega)]; exact HR4.out
  have ig : W0.heap[g]? = some (.cells cur 5 (0, 0)) := by rw [← hW0, Below.heap_alloc _ _ _ (by simp; omega), Below.heap_alloc _ _ _ (by omega)]; exact HG.out
  have iB : Below w.heap.size w W0 := by rw [← hW0]; exact bl_alloc (bl_alloc HB4.out _) _
  rw [hW0]
  clear hz hz8 hz64 HR H8 H64 HR4 HB4 HG hW0
  refine wpIn_rangeFunc_ownF rfl (by omega) (gf := 58) (lb := #[.pointer (some ⟨w4.heap.size, 0, none⟩), .pointer (some ⟨w4.heap.size + 1, 0, none⟩)]) rfl trivial (enters_of Try.func58 (by kernel_rfl) rfl)
    (chunk_stops _ m w4.heap.size (w4.heap.size + 1) W0.heap.size hB N cp ⟨g, 0, none⟩ (by omega) HNm.out hNb hnc (by omega) (by omega) (by omega) (by omega) W0 (by omega) (by omega) hcs hcn) kpX_t (kpX_b (Nat.le_refl _)) (Below.refl _ _) (fun _ => rfl)
    (fun pre W => (Hw W hB 31 8 (foldX beginE (padE l) pre).get ∧ Hw W (hB + 1) 57 64 kW ∧ W.heap[w.heap.size]? = some (.cells tab32 37) ∧ W.heap[g]? = some (.cells cur 5 (0, 0)) ∧ W0.heap.size ≤ W.heap.size) ∧ Below w.heap.size w W)
    (fun _ _ _ => False)
    (OwnFrom.and (Own.from (fun s A B row hs hg hr => ⟨row_kept hs.1 hg hr, row_kept hs.2.1 hg hr, row_kept hs.2.2.1 hg hr, row_kept hs.2.2.2.1 hg hr, Nat.le_trans hs.2.2.2.2 hg.size⟩) _) (ownFrom_below (Nat.le_refl _) (by omega)))
    (fun _ _ _ _ _ hs _ _ => hs)
    ⟨⟨i8, i64, ir, ig, Nat.le_refl _⟩, iB⟩
    (fun x => { tmps := #[.slice A n c, undef, .pointer (some ⟨w.heap.size, 0, none⟩), .pointer (some ⟨hB, 0, none⟩), .pointer (some ⟨hB + 1, 0, none⟩), .slice (some ⟨g, 64 * x.1, none⟩) 64 64, undef, undef, .agg (rowF 8 hW), .agg (rowF 64 kW), .slice A n c, .slice (some ⟨g, 0, none⟩) N cp,
      .func (.func 58) #[] #[.pointer (some ⟨w4.heap.size, 0, none⟩), .pointer (some ⟨w4.heap.size + 1, 0, none⟩)], .slice (some ⟨g, 64 * x.1, none⟩) 64 64, undef, undef, undef, undef, undef, undef, undef, undef, undef, undef, undef, undef, undef, undef, undef, undef, undef, undef, undef, undef], defers := [] }) ?assign ?body ?done ?stop
  case assign =>
    intro l x W K hK
    unfold encC
    gi_wp2
    exact hK
  case body =>
    rintro l' pre x W ⟨⟨h8, h64, hr, hg, hsz⟩, hB'⟩ _
    have hrd := rd_row hg HC.out
    obtain ⟨rdb, lenb⟩ := rd_block hrd x.1 m (by rw [HNl.out]; exact HNm.out) x.2
    rw [add_zero_at] at rdb
    obtain ⟨s, hs⟩ : ∃ s, foldX beginE (padE l) pre = s := ⟨_, rfl⟩
    rw [hs] at h8
    have HS := Lib.hid hs
    have J8 := Lib.hid h8
    have J64 := Lib.hid h64
    have JR := Lib.hid hr
    have JG := Lib.hid hg
    have JB := Lib.hid hB'
    have JL := Lib.hid lenb
    have JD := Lib.hid rdb
    clear hs h8 h64 hr hg hB' hrd rdb lenb
    gi_wp2_with (refine wpListIn_load_row rfl 31 _ rfl hB rfl 31 _ (0, 0) _ J8.out Try.underlying31 rfl (by rw [size8, rowF_size]) ?_)
    refine ⟨trivial, ?_⟩
    refine (CallsIn.inRound l' (callsIn_wide.2 (goneOn_any s (some ⟨g, 64 * x.1, none⟩) 64 (blockAt (padE l) x.1) _ (hB + 1) JL.out JD.out J64.out))).mono ?_
    rintro e W3 ⟨rfl, hb3⟩
    have K8 := Lib.hid (J8.out.below hb3)
    have K64 := Lib.hid (J64.out.below hb3)
    have KR : Hid (W3.heap[w.heap.size]? = some (.cells tab32 37)) := Lib.hid ((hb3.block _ (Array.getElem?_eq_some_iff.1 JR.out).1).trans JR.out)
    have KG : Hid (W3.heap[g]? = some (.cells cur 5 (0, 0))) := Lib.hid ((hb3.block _ (Array.getElem?_eq_some_iff.1 JG.out).1).trans JG.out)
    have KB := Lib.hid (bl_trans JB.out hb3)
    have K3 := Lib.hid hb3
    have hz3 := hb3.size
    clear hb3
    gi_wp2_with (refine wpListIn_store_row rfl 31 _ _ rfl hB _ rfl rfl 31 _ K8.out (by rw [size8, rowF_size]) (by rw [rowF_size, rowF_size]) (rowF_one _ _) ?_)
    refine ⟨(keeps_below K3.out).trans (keeps_setRow _ _ _ K8.out), kpX_t (kpX_below hsz K3.out) (kpX_setRow _ _ _ _), ⟨?_, ?_, ?_, ?_, ?_⟩, bl_setRow KB.out (by omega) _⟩
    · rw [foldX_snoc, HS.out]
      exact setRow_heap _ _ _ _ _ _ K8.out
    · unfold Hw
      rw [setRow_other _ _ _ _ (by omega)]
      exact K64.out
    · rw [setRow_other _ _ _ _ (by omega)]
      exact KR.out
    · rw [setRow_other _ _ _ _ (by omega)]
      exact KG.out
    · rw [size_setRow]; omega
  case done =>
    rintro D xs W hD rfl ⟨⟨h8, h64, hr, hg, hsz⟩, hB'⟩ hK
    have es : foldX beginE (padE l) (List.finRange m) = stateE l := by
      rw [foldX_all, stateE, HM.out]
    rw [es] at h8
    obtain ⟨s, hs⟩ : ∃ s, stateE l = s := ⟨_, rfl⟩
    rw [hs] at h8
    have HSt := Lib.hid hs
    have hDlt : D < W.heap.size := (Array.getElem?_eq_some_iff.1 hK).1
    have J8 := Lib.hid h8
    have JR := Lib.hid hr
    have JB := Lib.hid hB'
    have JK := Lib.hid hK
    clear hs es h8 h64 hr hg hB' hK HL HC HM HNm HNl
    have hz := zero32
    gi_wp2
    clear hz
    gi_loopw [17] (fun i wr => ∃ k : Nat, k ≤ 32 ∧ i = .int .i64 k ∧ Hb wr W.heap.size 37 32 (fun j => if j < k then byteOf s j else 0) ∧ Hw wr hB 31 8 s.get ∧ wr.heap[w.heap.size]? = some (.cells tab32 37) ∧ wr.heap[D]? = some (.deferred (some [])) ∧ Below w.heap.size w wr)
      (fun i _ => 32 - (intOf i).toNat)
    case atStart =>
      refine ⟨0, by omega, rfl, ?_, J8.out.alloc _, ?_, ?_, bl_alloc JB.out _⟩
      · exact (by
          have h : Hb (W.alloc (.cells tab32 37)) W.heap.size 37 32 (fun _ => 0) := by rw [tab32_row]; exact heap_alloc_new W _
          exact h.turn (fun j _ => by simp))
      · rw [Below.heap_alloc _ _ _ (Array.getElem?_eq_some_iff.1 JR.out).1]; exact JR.out
      · rw [Below.heap_alloc _ _ _ hDlt]; exact JK.out
    case round =>
      clear J8 JR JB JK
      obtain ⟨k, hk, rfl, h1, h8, hr, hKD, hB'⟩ := hrel
      by_cases hlt : k < 32
      · obtain ⟨q, hq⟩ : ∃ q, k / 4 = q := ⟨_, rfl⟩
        obtain ⟨t, ht⟩ : ∃ t, 24 - 8 * (k % 4) = t := ⟨_, rfl⟩
        have hq8 : q < 8 := by omega
        have c8 := h8.cell hq8
        have ck := h1.cell hlt
        have fk := h1.free k
        have e1 : (k : Int) / 4 = (q : Int) := by omega
        have e2 : (24 : Int) - 8 * ((k : Int) % 4) = (t : Int) := by omega
        have ht24 : t ≤ 24 := by omega
        have HQ := Lib.hid hq
        have HT := Lib.hid ht
        have J1 := Lib.hid h1
        have J8 := Lib.hid h8
        have JR := Lib.hid hr
        have JK := Lib.hid hKD
        have JB := Lib.hid hB'
        clear hq ht h1 h8 hr hKD hB'
        gi_wp2
        have hv : Value.int IntKind.u8 (((s.get q).toNat : Int) / 2 ^ t % 256) = bv (byteOf s k) := by
          rw [byte_val]
          unfold byteOf
          rw [HQ.out, HT.out]
        refine ⟨⟨k + 1, by omega, by go_num, J1.out.set k _ _ hv (fun j _ => upd_ltB (byteOf s) k j), J8.out.other (by simp; omega) _, ?_, ?_, JB.out.setCell (p := ⟨W.heap.size, k, none⟩) (by simp; omega) _⟩, by simp [intOf]; omega⟩
        · rw [Below.heap_setCell _ _ _ _ (by simp; omega)]; exact JR.out
        · rw [Below.heap_setCell _ _ _ _ (by simp; omega)]; exact JK.out
      · obtain rfl : k = 32 := by omega
        have h32 := h1.turn (f' := byteOf s) (fun j hj => if_pos hj)
        have J1 := Lib.hid h32
        have JR := Lib.hid hr
        have JB := Lib.hid hB'
        have hDw : D ≠ w.heap.size := by omega
        have hKs : (wr.setRow w.heap.size (rowB 32 (byteOf s))).heap[D]? = some (.deferred (some [])) := by rw [setRow_other _ _ _ _ hDw]; exact hKD
        have JK := Lib.hid hKs
        clear h1 h32 h8 hr hKD hB' hKs
        gi_wp2_with (first
          | (refine wpListIn_load_row rfl 37 _ rfl W.heap.size rfl 37 _ (0, 0) _ J1.out Try.underlying37 rfl (by rw [size32, rowB_size]) ?_)
          | (refine wpListIn_store_row rfl 37 _ _ rfl w.heap.size _ rfl rfl 37 _ JR.out (by rw [size32, rowB_size]) (by rw [rowB_size]; rfl) (rowB_one _ _) ?_))
        have hsr : (wr.setRow w.heap.size (rowB 32 (byteOf s))).heap[w.heap.size]? = some (.cells (rowB 32 (byteOf s)) 37) := setRow_heap _ _ _ _ _ _ JR.out
        refine ⟨by simp, .inl ⟨_, _, rfl, run_takeDeferred JK.out, ?_⟩⟩
        refine ⟨.agg (rowB 32 (byteOf s)), ?_, by rw [HSt.out], ?_⟩
        · refine results_cell_row rfl _ _ w.heap.size 37 _ (0, 0) _ rfl ?_ Try.underlying37 rfl (by rw [size32, rowB_size])
          rw [World.putObj_heap_other (fun e => hDw e.symm)]
          exact hsr
        · exact (bl_setRow JB.out (Nat.le_refl _) _).trans (belowK_b (w := w) (Nat.le_refl _) _ D _ _ (by omega) JK.out rfl rfl)
  case stop =>
    rintro D c pre W _ _ h _
    exact h.elim

end Go.Proofs.Ythpcmceomamadaa
