/- What the program makes of a block: goneOn. No condition but that the block can be read and that the rounds' words lie where they are told. -/
import Derived.Test.YthpcmceomamadaaShaG
set_option linter.unusedVariables false
set_option linter.unusedSimpArgs false
namespace Go.Proofs.Ythpcmceomamadaa
open Go.RowKit

theorem Hw.at0 {w : World} {g : Nat} {t : TypeId} {h : S8} (H : Hw w g t 8 h.get) :
    w.cell? ⟨g, 0, none⟩ = some (.int .u32 (h.a.toNat : Int)) ∧ w.cell? ⟨g, 1, none⟩ = some (.int .u32 (h.b.toNat : Int)) ∧ w.cell? ⟨g, 2, none⟩ = some (.int .u32 (h.c.toNat : Int)) ∧ w.cell? ⟨g, 3, none⟩ = some (.int .u32 (h.d.toNat : Int)) ∧
    w.cell? ⟨g, 4, none⟩ = some (.int .u32 (h.e.toNat : Int)) ∧ w.cell? ⟨g, 5, none⟩ = some (.int .u32 (h.f.toNat : Int)) ∧ w.cell? ⟨g, 6, none⟩ = some (.int .u32 (h.g.toNat : Int)) ∧ w.cell? ⟨g, 7, none⟩ = some (.int .u32 (h.h.toNat : Int)) :=
  ⟨H.cell (j := 0) (by omega), H.cell (j := 1) (by omega), H.cell (j := 2) (by omega), H.cell (j := 3) (by omega), H.cell (j := 4) (by omega), H.cell (j := 5) (by omega), H.cell (j := 6) (by omega), H.cell (j := 7) (by omega)⟩

/-- A word out of an array. -/
theorem index64 (f : Nat → BitVec 32) (k : Nat) (hk : k < 64) (W : World) : (Instr.index 57 (.agg (rowF 64 f)) (.int .i64 (k : Int))).run Try.prog W = .ok (.int .u32 ((f k).toNat : Int)) W := by
  have e : (Try.prog.info? 22).map (·.size) = some 1 := by kernel_rfl
  obtain ⟨i, hi, hs⟩ : ∃ i, Try.prog.info? 22 = some i ∧ i.size = 1 := by
    cases hq : Try.prog.info? 22 with
    | none => rw [hq] at e; cases e
    | some i => rw [hq] at e; exact ⟨i, rfl, by simpa using e⟩
  have hg := rowF_get 64 f k hk
  have h0 : (0 : Int) ≤ k := by omega
  have h1 : (k : Int) < 64 := by omega
  have hu := run_underlying Try.underlying57
  have ha := run_underlying Try.underlying22
  simp [Instr.index, hu, hi, hs, h1, sizeOf, typeInfo, go_sem]
  rw [if_pos hk, hg]
  rfl

theorem index8 (f : Nat → BitVec 32) (k : Nat) (hk : k < 8) (W : World) : (Instr.index 31 (.agg (rowF 8 f)) (.int .i64 (k : Int))).run Try.prog W = .ok (.int .u32 ((f k).toNat : Int)) W := by
  have e : (Try.prog.info? 22).map (·.size) = some 1 := by kernel_rfl
  obtain ⟨i, hi, hs⟩ : ∃ i, Try.prog.info? 22 = some i ∧ i.size = 1 := by
    cases hq : Try.prog.info? 22 with
    | none => rw [hq] at e; cases e
    | some i => rw [hq] at e; exact ⟨i, rfl, by simpa using e⟩
  have hg := rowF_get 8 f k hk
  have h0 : (0 : Int) ≤ k := by omega
  have h1 : (k : Int) < 8 := by omega
  have hu := run_underlying Try.underlying31
  have ha := run_underlying Try.underlying22
  simp [Instr.index, hu, hi, hs, h1, sizeOf, typeInfo, go_sem]
  rw [if_pos hk, hg]
  rfl

theorem sb0_of (x : BitVec 32) : bits .xor .u32 (bits .xor .u32 ((rr x 2).toNat : Int) ((rr x 13).toNat : Int)) ((rr x 22).toNat : Int) = ((sb0 x).toNat : Int) := by
  rw [xor32, xor32]; rfl
theorem sb1_of (x : BitVec 32) : bits .xor .u32 (bits .xor .u32 ((rr x 6).toNat : Int) ((rr x 11).toNat : Int)) ((rr x 25).toNat : Int) = ((sb1 x).toNat : Int) := by
  rw [xor32, xor32]; rfl
theorem ch_of (e f g : BitVec 32) : bits .xor .u32 (bits .and .u32 (e.toNat : Int) (f.toNat : Int)) (bits .and .u32 (bits .xor .u32 (if IntKind.u32.signed = true then -1 else IntKind.u32.max) (e.toNat : Int)) (g.toNat : Int)) = ((ch3 e f g).toNat : Int) := by
  rw [show (if IntKind.u32.signed = true then (-1 : Int) else IntKind.u32.max) = IntKind.u32.max from rfl, not32, and32, and32, xor32]; rfl
theorem mj_of (a b c : BitVec 32) : bits .xor .u32 (bits .xor .u32 (bits .and .u32 (a.toNat : Int) (b.toNat : Int)) (bits .and .u32 (a.toNat : Int) (c.toNat : Int))) (bits .and .u32 (b.toNat : Int) (c.toNat : Int)) = ((mj3 a b c).toNat : Int) := by
  rw [and32, and32, and32, xor32, xor32]; rfl

theorem one_of (h e x k w : BitVec 32) : ((h.toNat : Int) + (e.toNat : Int) + (x.toNat : Int) + (k.toNat : Int) + (w.toNat : Int)) % 4294967296 = ((h + e + x + k + w).toNat : Int) := by
  rw [BitVec.toNat_add, BitVec.toNat_add, BitVec.toNat_add, BitVec.toNat_add]
  omega
theorem sum2 (a b : BitVec 32) : ((a.toNat : Int) + (b.toNat : Int)) % 4294967296 = ((a + b).toNat : Int) := by
  rw [BitVec.toNat_add]
  omega

theorem upd_sum (f g : Nat → BitVec 32) (k j : Nat) : (if j < k + 1 then f j + g j else f j) = if j = k then f k + g k else if j < k then f j + g j else f j := by
  by_cases h : j = k
  · subst h; simp
  · rw [if_neg h]
    by_cases h2 : j < k
    · rw [if_pos h2, if_pos (by omega)]
    · rw [if_neg h2, if_neg (by omega)]

set_option maxHeartbeats 4000000 in
set_option maxRecDepth 100000 in
theorem goneOn_any (h : S8) (A : Option Addr) (c : Nat) (l : List UInt8) (w : World) (kB : Nat) (hl : l.length = 64) (hr : Rd w A l) (hk : Hw w kB 57 64 kW) :
    Calls Try.prog 36 #[.agg (rowF 8 h.get), .slice A 64 c, .pointer (some ⟨kB, 0, none⟩)] w (GotF w 8 (blockE h l).get) := by
  have hz := zero8
  have HL := Lib.hid hl
  have HR := Lib.hid hr
  have HK := Lib.hid hk
  clear hl hr hk
  go_enter Try.func36, Try.ntmps36
  go_wp2
  have hw0 : Hw ((w.alloc (.cells (rowF 8 h.get) 31)).alloc (.cells tab8 31)) w.heap.size 31 8 h.get := (Hw.new rfl).alloc _
  have hw1 : Hw ((w.alloc (.cells (rowF 8 h.get) 31)).alloc (.cells tab8 31)) (w.heap.size + 1) 31 8 (fun _ => 0) := Hw.new2 _ tab8_row
  have hB0 : Below w.heap.size w ((w.alloc (.cells (rowF 8 h.get) 31)).alloc (.cells tab8 31)) := bl_alloc (bl_alloc (Below.refl _ _) _) _
  generalize (w.alloc (.cells (rowF 8 h.get) 31)).alloc (.cells tab8 31) = W0 at *
  obtain ⟨c0, c1, c2, c3, c4, c5, c6, c7⟩ := hw0.at0
  have HW0 := Lib.hid hw0
  have HW1 := Lib.hid hw1
  have HB0 := Lib.hid hB0
  clear hw0 hw1 hB0 hz
  go_quiet (fail)
  have HW0q := Lib.hid (HW0.out.drewN nq)
  have HW1q := Lib.hid (HW1.out.drewN nq)
  have HB0q := Lib.hid (bl_drewN HB0.out nq)
  clear c0 c1 c2 c3 c4 c5 c6 c7 HW0 HW1 HB0
  go_wp2_with fail
  refine (spread_any A c l _ HL.out (HR.out.below HB0q.out)).mono ?_
  rintro e w1 ⟨rfl, hB1⟩
  have HX0 := Lib.hid (HW0q.out.below hB1)
  have HX1 := Lib.hid (HW1q.out.below hB1)
  have HKx := Lib.hid ((HK.out.below HB0q.out).below hB1)
  have HBx := Lib.hid (bl_trans HB0q.out hB1)
  clear HW0q HW1q HB0q HK HR hB1
  generalize W0.drewN nq = W0q at *
  go_wp2
  go_loop [7, 8, 9, 10, 11, 12, 13, 14, 41] (fun v0 v1 v2 v3 v4 v5 v6 v7 i => ∃ (k : Nat) (s : S8), k ≤ 64 ∧ i = .int .i64 k ∧ Hid (goE l h k = s) ∧ v0 = .int .u32 (s.a.toNat : Int) ∧ v1 = .int .u32 (s.b.toNat : Int) ∧ v2 = .int .u32 (s.c.toNat : Int) ∧ v3 = .int .u32 (s.d.toNat : Int) ∧
    v4 = .int .u32 (s.e.toNat : Int) ∧ v5 = .int .u32 (s.f.toNat : Int) ∧ v6 = .int .u32 (s.g.toNat : Int) ∧ v7 = .int .u32 (s.h.toNat : Int)) (fun _ _ _ _ _ _ _ _ i => 64 - (intOf i).toNat)
  case atStart => exact ⟨0, h, by omega, rfl, rfl, rfl, rfl, rfl, rfl, rfl, rfl, rfl, rfl⟩
  case round =>
    obtain ⟨k, ⟨a, b, c', d, e, f, g, h'⟩, hk, rfl, HS, rfl, rfl, rfl, rfl, rfl, rfl, rfl, rfl⟩ := hrel
    by_cases hlt : k < 64
    · have hi := index64 (schW l) k hlt
      have hck := HKx.out.cell hlt
      have q0 := sb0_of a
      have q1 := sb1_of e
      have q2 := ch_of e f g
      have q3 := mj_of a b c'
      go_wp2_with (go_at_call 56; refine (turned_s _ _ _ (by decide) (by decide)).mono ?_; rintro e w' ⟨rfl, rfl⟩)
      rw [one_of, sum2, sum2, sum2]
      exact ⟨⟨k + 1, stepE (kW k) (schW l k) ⟨a, b, c', d, e, f, g, h'⟩, by omega, by go_num, by rw [goE, HS.out]; rfl, rfl, rfl, rfl, rfl, rfl, rfl, rfl, rfl⟩, by simp [intOf]; omega⟩
    · obtain rfl : k = 64 := by omega
      have hi8 := fun k hk => index8 (S8.get ⟨a, b, c', d, e, f, g, h'⟩) k hk
      have HI := Lib.hid hi8
      clear hi8
      go_wp2
      go_loopw [116] (fun i wr => ∃ k : Nat, k ≤ 8 ∧ i = .int .i64 k ∧ Hw wr w.heap.size 31 8 (fun j => if j < k then h.get j + S8.get ⟨a, b, c', d, e, f, g, h'⟩ j else h.get j) ∧ Hw wr (w.heap.size + 1) 31 8 (fun _ => 0) ∧ Below w.heap.size w wr) (fun i _ => 8 - (intOf i).toNat)
      case atStart => exact ⟨0, by omega, rfl, HX0.out, HX1.out, HBx.out⟩
      case round =>
        clear HX0 HX1 HBx HKx
        obtain ⟨k, hk, rfl, h0, h1, hB⟩ := hrel
        by_cases hlt : k < 8
        · have hx : ∀ W, (Instr.index 31 (.agg #[.int .u32 (a.toNat : Int), .int .u32 (b.toNat : Int), .int .u32 (c'.toNat : Int), .int .u32 (d.toNat : Int), .int .u32 (e.toNat : Int), .int .u32 (f.toNat : Int), .int .u32 (g.toNat : Int), .int .u32 (h'.toNat : Int)]) (.int .i64 (k : Int))).run Try.prog W = .ok (.int .u32 ((S8.get ⟨a, b, c', d, e, f, g, h'⟩ k).toNat : Int)) W := HI.out k hlt
          have ck := h0.cell hlt
          rw [if_neg (by omega)] at ck
          have fk := h0.free k
          have H0 := Lib.hid h0
          have H1 := Lib.hid h1
          have HB := Lib.hid hB
          obtain ⟨y, hy⟩ : ∃ y, S8.get ⟨a, b, c', d, e, f, g, h'⟩ k = y := ⟨_, rfl⟩
          rw [hy] at hx
          have HY := Lib.hid hy
          clear h0 h1 hB hy
          go_wp2
          rw [sum2, ← HY.out]
          exact ⟨⟨k + 1, by omega, by go_num, H0.out.set k _ (fun j _ => upd_sum h.get (S8.get ⟨a, b, c', d, e, f, g, h'⟩) k j), H1.out.other (by simp) _, HB.out.setCell (p := ⟨w.heap.size, k, none⟩) (Nat.le_refl _) _⟩, by simp [intOf]; omega⟩
        · obtain rfl : k = 8 := by omega
          have h8 : Hw wr w.heap.size 31 8 (blockE h l).get := by
            have e2 := rowF_congr 8 (f := fun j => if j < 8 then h.get j + S8.get ⟨a, b, c', d, e, f, g, h'⟩ j else h.get j) (g := (blockE h l).get) (fun j hj => by
              rw [if_pos hj, blockE, S8.of_get _ _ hj, HS.out])
            unfold Hw at h0 ⊢
            rw [← e2]
            exact h0
          have H0 := Lib.hid h8
          have H1 := Lib.hid h1
          have HB := Lib.hid hB
          clear h0 h1 hB h8
          go_wp2_with (first
            | (refine wpList_load_row rfl 31 _ rfl w.heap.size rfl 31 _ (0, 0) _ H0.out Try.underlying31 rfl (by rw [size8, rowF_size]) ?_)
            | (refine wpList_store_row rfl 31 _ _ rfl (w.heap.size + 1) _ rfl rfl 31 _ H1.out (by rw [size8, rowF_size]) (by rw [rowF_size, rowF_size]) (rowF_one _ _) ?_))
          refine bodyPost_ret (v := .agg (rowF 8 (blockE h l).get)) (results_cell_row rfl _ _ (w.heap.size + 1) 31 _ (0, 0) _ rfl (setRow_heap _ _ _ _ _ _ H1.out) Try.underlying31 rfl (by rw [size8, rowF_size])) rfl ⟨rfl, ?_⟩
          exact bl_setRow HB.out (by omega) _

end Go.Proofs.Ythpcmceomamadaa
