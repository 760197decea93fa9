/- What folded of the statements leaves, way by way. No condition. -/
import Derived.Test.YthpcmceomamadaaShaPd
import Derived.Deep.RegionWith
set_option linter.unusedVariables false
set_option linter.unusedSimpArgs false
namespace Go.Proofs.Ythpcmceomamadaa
open Go.RowKit

/-- Eight words, written out. -/
def rowS (h : S8) : Array Value := #[.int .u32 (h.a.toNat : Int), .int .u32 (h.b.toNat : Int), .int .u32 (h.c.toNat : Int), .int .u32 (h.d.toNat : Int), .int .u32 (h.e.toNat : Int), .int .u32 (h.f.toNat : Int), .int .u32 (h.g.toNat : Int), .int .u32 (h.h.toNat : Int)]
theorem rowS_eq (h : S8) : rowF 8 h.get = rowS h := rfl

def GotK64 (w : World) (x : S8) (e : Ending) (w' : World) : Prop := e = .returned (.tuple #[.agg #[.int .u32 (x.a.toNat : Int), .int .u32 (x.b.toNat : Int), .int .u32 (x.c.toNat : Int), .int .u32 (x.d.toNat : Int), .int .u32 (x.e.toNat : Int), .int .u32 (x.f.toNat : Int), .int .u32 (x.g.toNat : Int), .int .u32 (x.h.toNat : Int)], .int .i64 0]) ∧ Below w.heap.size w w'
theorem block_lit (h : S8) (A : Option Addr) (c : Nat) (l : List UInt8) (x : S8) (w : World) (hl : l.length = 64) (hx : blockE h l = x) (hr : Rd w A l) :
    Calls Try.prog 17 #[.agg #[.int .u32 (h.a.toNat : Int), .int .u32 (h.b.toNat : Int), .int .u32 (h.c.toNat : Int), .int .u32 (h.d.toNat : Int), .int .u32 (h.e.toNat : Int), .int .u32 (h.f.toNat : Int), .int .u32 (h.g.toNat : Int), .int .u32 (h.h.toNat : Int)], .slice A 64 c] w (GotK64 w x) := by
  subst hx
  have h1 := block_any h A 64 c l w hl hr (by simp [maxLen])
  refine h1.mono ?_
  rintro e w' ⟨rfl, hb⟩
  refine ⟨?_, hb⟩
  unfold blockF blockR
  rw [if_pos hl, if_pos hl]
  rfl

theorem z8_row : (#[.int .u32 0, .int .u32 0, .int .u32 0, .int .u32 0, .int .u32 0, .int .u32 0, .int .u32 0, .int .u32 0] : Array Value) = rowF 8 (fun _ => 0) := by kernel_rfl

def GotFo (w : World) (s : S8) (e : Ending) (w' : World) : Prop := e = .returned (.tuple #[.agg (rowF 8 s.get), .bool true]) ∧ Below w.heap.size w w'

theorem bcell {W w1 : World} (hb : Below W.heap.size W w1) : (∀ b o, b < W.heap.size → w1.cell? ⟨b, o, none⟩ = W.cell? ⟨b, o, none⟩) ∧ (∀ b o, b < W.heap.size → w1.frozen? ⟨b, o, none⟩ = W.frozen? ⟨b, o, none⟩) :=
  ⟨fun b o h => hb.cell (p := ⟨b, o, none⟩) h, fun b o h => hb.frozen (p := ⟨b, o, none⟩) h⟩

/-- 'b[s:t]'. -/
theorem cut_two (ad : Addr) (n c s t : Nat) (ht : t = s + 64) (hn : t ≤ n) (hc : n ≤ c) (W : World) :
    (Instr.slice 28 (.slice (some ad) n c) (some (.int .i64 (s : Int))) (some (.int .i64 (t : Int))) none).run Try.prog W = .ok (.slice (some (ad.add s)) 64 (c - s)) W := by
  obtain ⟨i, hi, _, hs1, _⟩ := info_parts info_u8
  have he : Try.prog.elem 28 = 5 := by kernel_rfl
  have h1 : t ≤ c := by omega
  have h2 : s ≤ t := by omega
  have hb : (Instr.sliceBounds true n c (some (.int .i64 (s : Int))) (some (.int .i64 (t : Int))) none).run Try.prog W = .ok (s, t, c) W := by
    simp [Instr.sliceBounds, go_sem, h1, h2]
  rw [run_slice_any W 28 (some ad) n c (by rw [he]; exact Try.underlying28), hb]
  have h3 : ¬ c = s := by omega
  have h4 : t - s = 64 := by omega
  simp [sizeOf, typeInfo, he, hi, hs1, sliced, Result.andThen, h3, h4]

/-- What there is when a block's words lie in a variable of their own, where that is X. -/
def Leaf (w W : World) (X : Nat) (x y : S8) : Prop := Hw W X 31 8 y.get ∧ Hw W w.heap.size 31 8 x.get ∧ Hw W (w.heap.size + 1) 31 8 (fun _ => 0) ∧ Below w.heap.size w W ∧ w.heap.size + 1 < X
theorem leaf_one {w wr w1 : World} {x y : S8} (hb' : Below wr.drew.heap.size wr.drew w1) (h0 : Hw wr w.heap.size 31 8 x.get) (h1 : Hw wr (w.heap.size + 1) 31 8 (fun _ => 0)) (hB : Below w.heap.size w wr) :
    Leaf w (w1.alloc (.cells #[.int .u32 (y.a.toNat : Int), .int .u32 (y.b.toNat : Int), .int .u32 (y.c.toNat : Int), .int .u32 (y.d.toNat : Int), .int .u32 (y.e.toNat : Int), .int .u32 (y.f.toNat : Int), .int .u32 (y.g.toNat : Int), .int .u32 (y.h.toNat : Int)] 31)) w1.heap.size x y := by
  have hb : Below wr.heap.size wr w1 := bl_trans (Below.drew (Below.refl _ _)) hb'
  exact ⟨Hw.new rfl, (h0.below hb).alloc _, (h1.below hb).alloc _, bl_alloc (bl_trans hB hb) _, (h1.below hb).lt⟩
theorem leaf_two {w wr w1 : World} {x y : S8} (hb' : Below (wr.alloc (.cells #[.int .u32 0, .int .u32 0, .int .u32 0, .int .u32 0, .int .u32 0, .int .u32 0, .int .u32 0, .int .u32 0] 31)).drew.heap.size (wr.alloc (.cells #[.int .u32 0, .int .u32 0, .int .u32 0, .int .u32 0, .int .u32 0, .int .u32 0, .int .u32 0, .int .u32 0] 31)).drew w1) (h0 : Hw wr w.heap.size 31 8 x.get) (h1 : Hw wr (w.heap.size + 1) 31 8 (fun _ => 0)) (hB : Below w.heap.size w wr) :
    Leaf w ((((((((w1.setCell ⟨wr.heap.size, 0, none⟩ (.int .u32 (y.a.toNat : Int))).setCell ⟨wr.heap.size, 1, none⟩ (.int .u32 (y.b.toNat : Int))).setCell ⟨wr.heap.size, 2, none⟩ (.int .u32 (y.c.toNat : Int))).setCell ⟨wr.heap.size, 3, none⟩ (.int .u32 (y.d.toNat : Int))).setCell ⟨wr.heap.size, 4, none⟩ (.int .u32 (y.e.toNat : Int))).setCell ⟨wr.heap.size, 5, none⟩ (.int .u32 (y.f.toNat : Int))).setCell ⟨wr.heap.size, 6, none⟩ (.int .u32 (y.g.toNat : Int))).setCell ⟨wr.heap.size, 7, none⟩ (.int .u32 (y.h.toNat : Int))) wr.heap.size x y := by
  have hb : Below (wr.alloc (.cells #[.int .u32 0, .int .u32 0, .int .u32 0, .int .u32 0, .int .u32 0, .int .u32 0, .int .u32 0, .int .u32 0] 31)).heap.size (wr.alloc (.cells #[.int .u32 0, .int .u32 0, .int .u32 0, .int .u32 0, .int .u32 0, .int .u32 0, .int .u32 0, .int .u32 0] 31)) w1 := bl_trans (Below.drew (Below.refl _ _)) hb'
  have hlt := h1.lt
  have h7 : Hw w1 wr.heap.size 31 8 (fun _ => 0) := Hw.below (Hw.new z8_row) hb
  have k0 := (h0.alloc (.cells #[.int .u32 0, .int .u32 0, .int .u32 0, .int .u32 0, .int .u32 0, .int .u32 0, .int .u32 0, .int .u32 0] 31)).below hb
  have k1 := (h1.alloc (.cells #[.int .u32 0, .int .u32 0, .int .u32 0, .int .u32 0, .int .u32 0, .int .u32 0, .int .u32 0, .int .u32 0] 31)).below hb
  have kB := bl_trans (bl_alloc hB (.cells #[.int .u32 0, .int .u32 0, .int .u32 0, .int .u32 0, .int .u32 0, .int .u32 0, .int .u32 0, .int .u32 0] 31)) hb
  refine ⟨?_, ?_, ?_, ?_, hlt⟩
  · have s0 := h7.set (f' := fun j => if j = 0 then y.a else 0) 0 y.a (fun j _ => rfl)
    have s1 := s0.set (f' := fun j => if j = 1 then y.b else if j = 0 then y.a else 0) 1 y.b (fun j _ => rfl)
    have s2 := s1.set (f' := fun j => if j = 2 then y.c else if j = 1 then y.b else if j = 0 then y.a else 0) 2 y.c (fun j _ => rfl)
    have s3 := s2.set (f' := fun j => if j = 3 then y.d else if j = 2 then y.c else if j = 1 then y.b else if j = 0 then y.a else 0) 3 y.d (fun j _ => rfl)
    have s4 := s3.set (f' := fun j => if j = 4 then y.e else if j = 3 then y.d else if j = 2 then y.c else if j = 1 then y.b else if j = 0 then y.a else 0) 4 y.e (fun j _ => rfl)
    have s5 := s4.set (f' := fun j => if j = 5 then y.f else if j = 4 then y.e else if j = 3 then y.d else if j = 2 then y.c else if j = 1 then y.b else if j = 0 then y.a else 0) 5 y.f (fun j _ => rfl)
    have s6 := s5.set (f' := fun j => if j = 6 then y.g else if j = 5 then y.f else if j = 4 then y.e else if j = 3 then y.d else if j = 2 then y.c else if j = 1 then y.b else if j = 0 then y.a else 0) 6 y.g (fun j _ => rfl)
    exact s6.set 7 y.h (fun j hj => by
      match j, hj with
      | 0, _ => rfl
      | 1, _ => rfl
      | 2, _ => rfl
      | 3, _ => rfl
      | 4, _ => rfl
      | 5, _ => rfl
      | 6, _ => rfl
      | 7, _ => rfl)
  · exact (((((((k0.other (by simp; omega) _).other (by simp; omega) _).other (by simp; omega) _).other (by simp; omega) _).other (by simp; omega) _).other (by simp; omega) _).other (by simp; omega) _).other (by simp; omega) _
  · exact (((((((k1.other (by simp; omega) _).other (by simp; omega) _).other (by simp; omega) _).other (by simp; omega) _).other (by simp; omega) _).other (by simp; omega) _).other (by simp; omega) _).other (by simp; omega) _
  · exact (((((((kB.setCell (by simp; omega) _).setCell (by simp; omega) _).setCell (by simp; omega) _).setCell (by simp; omega) _).setCell (by simp; omega) _).setCell (by simp; omega) _).setCell (by simp; omega) _).setCell (by simp; omega) _

end Go.Proofs.Ythpcmceomamadaa
