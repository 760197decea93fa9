/- What the program makes of a block: spread. No condition but that the block can be read. -/
import Derived.Test.YthpcmceomamadaaShaJ
import Derived.Deep.RegionLawGrows
import Derived.Deep.RegionHeld3
import Derived.RegionTactic
set_option linter.unusedVariables false
set_option linter.unusedSimpArgs false
namespace Go.Proofs.Ythpcmceomamadaa
open Go.RowKit

/-- n words, by a function. -/
def rowF (n : Nat) (f : Nat → BitVec 32) : Array Value := (((List.range n).map f).map wv).toArray
theorem rowF_size (n : Nat) (f : Nat → BitVec 32) : (rowF n f).size = n := by simp [rowF]
theorem rowF_get (n : Nat) (f : Nat → BitVec 32) (j : Nat) (hj : j < n) : (rowF n f)[j]? = some (wv (f j)) := by simp [rowF, hj]
theorem rowF_congr (n : Nat) {f g : Nat → BitVec 32} (h : ∀ j, j < n → f j = g j) : rowF n f = rowF n g := by
  unfold rowF
  rw [List.map_congr_left (f := f) (g := g) (fun j hj => h j (List.mem_range.1 hj))]
theorem rowF_set (n : Nat) (f : Nat → BitVec 32) (i : Nat) (x : BitVec 32) : (rowF n f).setIfInBounds i (wv x) = rowF n (fun j => if j = i then x else f j) := by
  apply Array.ext_getElem?
  intro j
  by_cases hj : j < n
  · by_cases e : i = j
    · subst e
      rw [Array.getElem?_setIfInBounds_self_of_lt (by rw [rowF_size]; exact hj), rowF_get _ _ _ hj, if_pos rfl]
    · rw [Array.getElem?_setIfInBounds_ne e, rowF_get _ _ _ hj, rowF_get _ _ _ hj, if_neg (fun h => e h.symm)]
  · rw [Array.getElem?_eq_none (by simp [rowF_size]; omega), Array.getElem?_eq_none (by rw [rowF_size]; omega)]
theorem rowF_one (n : Nat) (f : Nat → BitVec 32) : (rowF n f).all (·.oneCell') = true := all_one _
theorem tab64_row : tab64 = rowF 64 (fun _ => 0) := by kernel_rfl
theorem tab8_row : tab8 = rowF 8 (fun _ => 0) := by kernel_rfl

/-- A block that holds n words. -/
def Hw (w : World) (g : Nat) (t : TypeId) (n : Nat) (f : Nat → BitVec 32) : Prop := w.heap[g]? = some (.cells (rowF n f) t (0, 0))
theorem Hw.cell {w : World} {g : Nat} {t : TypeId} {n : Nat} {f : Nat → BitVec 32} (h : Hw w g t n f) {j : Nat} (hj : j < n) : w.cell? ⟨g, j, none⟩ = some (.int .u32 ((f j).toNat : Int)) := by
  rw [cell_of_row w g j _ _ _ h, rowF_get _ _ _ hj]
  rfl
theorem Hw.free {w : World} {g : Nat} {t : TypeId} {n : Nat} {f : Nat → BitVec 32} (h : Hw w g t n f) (j : Nat) : w.frozen? ⟨g, j, none⟩ = false := frozen_of_row w g j _ _ h
theorem Hw.drewN {w : World} {g : Nat} {t : TypeId} {n : Nat} {f : Nat → BitVec 32} (h : Hw w g t n f) (k : Nat) : Hw (w.drewN k) g t n f := h
theorem Hw.lt {w : World} {g : Nat} {t : TypeId} {n : Nat} {f : Nat → BitVec 32} (h : Hw w g t n f) : g < w.heap.size := (Array.getElem?_eq_some_iff.1 h).1
theorem Hw.below {w w' : World} {g : Nat} {t : TypeId} {n : Nat} {f : Nat → BitVec 32} (h : Hw w g t n f) (hb : Below w.heap.size w w') : Hw w' g t n f := (hb.block g h.lt).trans h
theorem Hw.alloc {w : World} {g : Nat} {t : TypeId} {n : Nat} {f : Nat → BitVec 32} (h : Hw w g t n f) (o : Obj) : Hw (w.alloc o) g t n f := (Below.heap_alloc w o g h.lt).trans h
theorem Hw.other {w : World} {g : Nat} {t : TypeId} {n : Nat} {f : Nat → BitVec 32} (h : Hw w g t n f) {p : Addr} (hp : g ≠ p.block) (v : Value) : Hw (w.setCell p v) g t n f := (Below.heap_setCell _ _ _ _ hp).trans h
theorem Hw.set {w : World} {g : Nat} {t : TypeId} {n : Nat} {f f' : Nat → BitVec 32} (h : Hw w g t n f) (i : Nat) (x : BitVec 32) (hf : ∀ j, j < n → f' j = if j = i then x else f j) : Hw (w.setCell ⟨g, i, none⟩ (.int .u32 (x.toNat : Int))) g t n f' := by
  have e : rowF n f' = (rowF n f).setIfInBounds i (wv x) := by rw [rowF_set]; exact rowF_congr n hf
  unfold Hw
  rw [e]
  exact heap_setCell_same w g i _ _ _ h
theorem Hw.new {w : World} {t : TypeId} {n : Nat} {f : Nat → BitVec 32} {c : Array Value} (h : c = rowF n f) : Hw (w.alloc (.cells c t)) w.heap.size t n f := by
  subst h
  exact heap_alloc_new w _
theorem Hw.new2 {w : World} {t : TypeId} {n : Nat} {f : Nat → BitVec 32} {c : Array Value} (o : Obj) (h : c = rowF n f) : Hw ((w.alloc o).alloc (.cells c t)) (w.heap.size + 1) t n f := by
  have h := Hw.new (w := w.alloc o) (t := t) h
  rw [World.size_alloc] at h
  exact h

def GotF (w : World) (n : Nat) (f : Nat → BitVec 32) (e : Ending) (w' : World) : Prop := e = .returned (.agg (rowF n f)) ∧ Below w.heap.size w w'

theorem cellA_zero (b : List UInt8) (j : Nat) : cellA b 0 j = 0 := by
  unfold cellA
  rw [Nat.zero_sub, Nat.min_eq_right (by omega)]
  rfl
theorem cellA_step (b : List UInt8) (k j : Nat) : cellA b (k + 1) j = if j = k / 4 then cellA b k (k / 4) <<< 8 ||| BitVec.ofNat 32 (b.getD k 0).toNat else cellA b k j := by
  unfold cellA
  by_cases h : j = k / 4
  · subst h
    have e1 : min 4 (k + 1 - 4 * (k / 4)) = k % 4 + 1 := by omega
    have e2 : min 4 (k - 4 * (k / 4)) = k % 4 := by omega
    have e3 : 4 * (k / 4) + k % 4 = k := by omega
    rw [if_pos rfl, e1, e2, acc4, e3]
  · have e1 : min 4 (k + 1 - 4 * j) = min 4 (k - 4 * j) := by omega
    rw [if_neg h, e1]
theorem cellA_all (b : List UInt8) (j : Nat) (hj : j < 64) : cellA b 64 j = if j < 16 then schW b j else 0 := by
  unfold cellA
  by_cases h : j < 16
  · rw [if_pos h, schW_low _ _ h]
    congr 1
    omega
  · rw [if_neg h]
    have e : min 4 (64 - 4 * j) = 0 := by omega
    rw [e]
    rfl
theorem byte_in (x : BitVec 32) (c : UInt8) : bits .or .u32 ((x.toNat : Int) * 256 % 4294967296) ((c.toNat : Int) % 4294967296) = ((x <<< 8 ||| BitVec.ofNat 32 c.toNat).toNat : Int) := by
  have e1 : (x.toNat : Int) * (256 : Int) % (4294967296 : Int) = ((x <<< 8).toNat : Int) := by rw [twice32]; rfl
  have e2 : (c.toNat : Int) % 4294967296 = ((BitVec.ofNat 32 c.toNat).toNat : Int) := by
    rw [BitVec.toNat_ofNat]
    omega
  rw [e1, e2, or32]

theorem sm0_of (x : BitVec 32) : bits .xor .u32 (bits .xor .u32 ((rr x 7).toNat : Int) ((rr x 18).toNat : Int)) ((x.toNat : Int) / 8) = ((sm0 x).toNat : Int) := by
  have e : (x.toNat : Int) / (8 : Int) = ((x >>> 3).toNat : Int) := by rw [half32]; rfl
  rw [e, xor32, xor32]
  rfl
theorem sm1_of (x : BitVec 32) : bits .xor .u32 (bits .xor .u32 ((rr x 17).toNat : Int) ((rr x 19).toNat : Int)) ((x.toNat : Int) / 1024) = ((sm1 x).toNat : Int) := by
  have e : (x.toNat : Int) / (1024 : Int) = ((x >>> 10).toNat : Int) := by rw [half32]; rfl
  rw [e, xor32, xor32]
  rfl
theorem sum4 (a b c d : BitVec 32) : ((a.toNat : Int) + (b.toNat : Int) + (c.toNat : Int) + (d.toNat : Int)) % 4294967296 = ((a + b + c + d).toNat : Int) := by
  rw [BitVec.toNat_add, BitVec.toNat_add, BitVec.toNat_add]
  omega
theorem upd_lt (f : Nat → BitVec 32) (k j : Nat) : (if j < k + 1 then f j else 0) = if j = k then f k else if j < k then f j else 0 := by
  by_cases h : j = k
  · subst h; simp
  · rw [if_neg h]
    by_cases h2 : j < k
    · rw [if_pos h2, if_pos (by omega)]
    · rw [if_neg h2, if_neg (by omega)]
theorem sub_in {k p d : Nat} (hk : k ≤ 64) (h : k = p + d) : IntKind.i64.wrap ((k : Int) - (d : Int)) = (p : Int) := by
  rw [IntWalk.i64_in _ (by omega)]
  omega

set_option maxHeartbeats 2000000 in
set_option maxRecDepth 100000 in
theorem spread_any (A : Option Addr) (c : Nat) (l : List UInt8) (w : World) (hl : l.length = 64) (hr : Rd w A l) :
    Calls Try.prog 55 #[.slice A 64 c] w (GotF w 64 (schW l)) := by
  have hz := zero64
  have HL := Lib.hid hl
  clear hl
  go_enter Try.func55, Try.ntmps55
  go_wp2
  have hw1 : Hw ((w.alloc (.cells tab64 57)).alloc (.cells tab64 57)) (w.heap.size + 1) 57 64 (cellA l 0) := Hw.new2 _ (by rw [tab64_row]; exact rowF_congr _ (fun j _ => (cellA_zero l j).symm))
  have hw0 : Hw ((w.alloc (.cells tab64 57)).alloc (.cells tab64 57)) w.heap.size 57 64 (fun _ => 0) := (Hw.new tab64_row).alloc _
  have hB0 : Below w.heap.size w ((w.alloc (.cells tab64 57)).alloc (.cells tab64 57)) := bl_alloc (bl_alloc (Below.refl _ _) _) _
  have W1 := Lib.hid hw1
  have W0 := Lib.hid hw0
  have B0 := Lib.hid hB0
  clear hw1 hw0 hB0 hz
  go_loopw [11] (fun i wr => ∃ k : Nat, k ≤ 64 ∧ i = .int .i64 k ∧ Hw wr (w.heap.size + 1) 57 64 (cellA l k) ∧ Hw wr w.heap.size 57 64 (fun _ => 0) ∧ Below w.heap.size w wr) (fun i _ => 64 - (intOf i).toNat)
  case atStart => exact ⟨0, by omega, rfl, W1.out, W0.out, B0.out⟩
  case round =>
    obtain ⟨k, hk, rfl, h1, h0, hB⟩ := hrel
    by_cases hlt : k < 64
    · have hk' : k < l.length := by have := HL.out; omega
      obtain ⟨ad, rfl, hc⟩ := (hr.below hB).cell hk'
      have hg : l.getD k 0 = l[k] := by simp [List.getD_eq_getElem?_getD, hk']
      obtain ⟨q, hq⟩ : ∃ q, k / 4 = q := ⟨_, rfl⟩
      have hj : q < 64 := by omega
      have hc1 := h1.cell hj
      have hf1 := h1.free q
      have e4 : (k : Int) / 4 = (q : Int) := by omega
      have HQ := Lib.hid hq
      have H1 := Lib.hid h1
      have H0 := Lib.hid h0
      have HG := Lib.hid hg
      clear hr h1 h0 hg hq
      go_wp2
      rw [byte_in, ← HG.out]
      exact ⟨⟨k + 1, by omega, by go_num, H1.out.set q _ (fun j _ => by rw [← HQ.out]; exact cellA_step l k j), H0.out.other (by simp) _, hB.setCell (p := ⟨w.heap.size + 1, q, none⟩) (by simp) _⟩, by simp [intOf]; omega⟩
    · obtain rfl : k = 64 := by omega
      have h64 : Hw wr (w.heap.size + 1) 57 64 (fun j => if j < 16 then schW l j else 0) := by
        have e := rowF_congr 64 (cellA_all l)
        unfold Hw at h1 ⊢
        rw [← e]
        exact h1
      have H1 := Lib.hid h64
      have H0 := Lib.hid h0
      have HB := Lib.hid hB
      clear h1 h0 hB h64 hr
      go_wp2
      go_loopw [6] (fun i wr => ∃ k : Nat, 16 ≤ k ∧ k ≤ 64 ∧ i = .int .i64 k ∧ Hw wr (w.heap.size + 1) 57 64 (fun j => if j < k then schW l j else 0) ∧ Hw wr w.heap.size 57 64 (fun _ => 0) ∧ Below w.heap.size w wr) (fun i _ => 64 - (intOf i).toNat)
      case atStart => exact ⟨16, by omega, by omega, rfl, H1.out, H0.out, HB.out⟩
      case round =>
        clear H1 H0 HB
        obtain ⟨k, hk1, hk2, rfl, h1, h0, hB⟩ := hrel
        by_cases hlt : k < 64
        · obtain ⟨p15, hp15⟩ : ∃ q, k = q + 15 := ⟨k - 15, by omega⟩
          obtain ⟨p2, hp2⟩ : ∃ q, k = q + 2 := ⟨k - 2, by omega⟩
          obtain ⟨p16, hp16⟩ : ∃ q, k = q + 16 := ⟨k - 16, by omega⟩
          obtain ⟨p7, hp7⟩ : ∃ q, k = q + 7 := ⟨k - 7, by omega⟩
          have l15 : p15 < 64 := by omega
          have l2 : p2 < 64 := by omega
          have l16 : p16 < 64 := by omega
          have l7 : p7 < 64 := by omega
          have hn := schW_at l hk1 hp15 hp2 hp16 hp7
          have k15 : p15 < k := by omega
          have k2 : p2 < k := by omega
          have k16 : p16 < k := by omega
          have k7 : p7 < k := by omega
          have c15 := h1.cell l15
          rw [if_pos k15] at c15
          have i16 : (p16 : Int) < 64 := by omega
          have i7 : (p7 : Int) < 64 := by omega
          have s0 := sm0_of (schW l p15)
          have s1 := sm1_of (schW l p2)
          have e15 : IntKind.i64.wrap ((k : Int) - 15) = (p15 : Int) := sub_in hk2 hp15
          have e2 : IntKind.i64.wrap ((k : Int) - 2) = (p2 : Int) := sub_in hk2 hp2
          have e16 : IntKind.i64.wrap ((k : Int) - 16) = (p16 : Int) := sub_in hk2 hp16
          have e7 : IntKind.i64.wrap ((k : Int) - 7) = (p7 : Int) := sub_in hk2 hp7
          have HN := Lib.hid hn
          have H1 := Lib.hid h1
          have H0 := Lib.hid h0
          have HB := Lib.hid hB
          clear hn h1 h0 hB hp15 hp2 hp16 hp7
          go_wp2
          go_quiet ((go_at_call 56; exact Calls.quiet_of (turned_z _ _ _ (by decide) (by decide))))
          go_wp2
          have H1q := Lib.hid (H1.out.drewN nq)
          have H0q := Lib.hid (H0.out.drewN nq)
          have HBq := Lib.hid (bl_drewN HB.out nq)
          clear c15 H1 H0 HB
          generalize wr.drewN nq = wq at *
          have c2 := H1q.out.cell l2
          rw [if_pos k2] at c2
          go_quiet ((go_at_call 56; exact Calls.quiet_of (turned_z _ _ _ (by decide) (by decide))))
          go_wp2
          have H1r := Lib.hid (H1q.out.drewN nq)
          have H0r := Lib.hid (H0q.out.drewN nq)
          have HBr := Lib.hid (bl_drewN HBq.out nq)
          clear c2 H1q H0q HBq
          generalize wq.drewN nq = wp at *
          have c16 := H1r.out.cell l16
          rw [if_pos k16] at c16
          have c7 := H1r.out.cell l7
          rw [if_pos k7] at c7
          have ck := H1r.out.cell hlt
          have fk := H1r.out.free k
          go_region
          go_wp2
          clear e15 e2 e16 e7 s0 s1
          rw [sum4, ← HN.out]
          exact ⟨⟨k + 1, by omega, by omega, by go_num, H1r.out.set k _ (fun j _ => upd_lt (schW l) k j), H0r.out.other (by simp) _, bl_drewN (HBr.out.setCell (p := ⟨w.heap.size + 1, k, none⟩) (by simp) _) 1⟩, by simp [intOf]; omega⟩
        · obtain rfl : k = 64 := by omega
          have h64 : Hw wr (w.heap.size + 1) 57 64 (schW l) := by
            have e := rowF_congr 64 (f := fun j => if j < 64 then schW l j else 0) (g := schW l) (fun j hj => if_pos hj)
            unfold Hw at h1 ⊢
            rw [← e]
            exact h1
          have H1 := Lib.hid h64
          have H0 := Lib.hid h0
          have HB := Lib.hid hB
          clear h1 h0 hB h64
          go_wp2_with (first
            | (refine wpList_load_row rfl 57 _ rfl (w.heap.size + 1) rfl 57 _ (0, 0) _ H1.out Try.underlying57 rfl (by rw [size64, rowF_size]) ?_)
            | (refine wpList_store_row rfl 57 _ _ rfl w.heap.size _ rfl rfl 57 _ H0.out (by rw [size64, rowF_size]) (by rw [rowF_size, rowF_size]) (rowF_one _ _) ?_))
          refine bodyPost_ret (v := .agg (rowF 64 (schW l))) (results_cell_row rfl _ _ w.heap.size 57 _ (0, 0) _ rfl (setRow_heap _ _ _ _ _ _ H0.out) Try.underlying57 rfl (by rw [size64, rowF_size])) rfl ⟨rfl, ?_⟩
          exact bl_setRow HB.out (Nat.le_refl _) _

end Go.Proofs.Ythpcmceomamadaa
