/- Block of the program; the statements' root and awake. No condition. -/
import Derived.Test.YthpcmceomamadaaShaY
set_option linter.unusedVariables false
set_option linter.unusedSimpArgs false
namespace Go.Proofs.Ythpcmceomamadaa
open Go.RowKit

theorem tab8_one : tab8.all (·.oneCell') = true := by kernel_rfl
/-- An array of eight words, read whole. -/
theorem load8 {w : World} {g : Nat} {cs : Array Value} (hg : w.heap[g]? = some (.cells cs 31 (0, 0))) (hs : cs.size = 8) : (loadVar 31 ⟨g, 0, none⟩).run Try.prog w = .ok (.agg cs) w :=
  run_loadVar_row w g 31 31 cs (0, 0) _ hg Try.underlying31 rfl (by rw [size8, hs])

def blockF (h : S8) (l : List UInt8) : S8 := if l.length = 64 then blockE h l else S8.of fun _ => 0
def blockR (l : List UInt8) : Int := if l.length = 64 then 0 else 2
def GotK (w : World) (h : S8) (l : List UInt8) (e : Ending) (w' : World) : Prop := e = .returned (.tuple #[.agg (rowF 8 (blockF h l).get), .int .i64 (blockR l)]) ∧ Below w.heap.size w w'

set_option maxHeartbeats 2000000 in
set_option maxRecDepth 100000 in
theorem block_any (h : S8) (A : Option Addr) (n c : Nat) (l : List UInt8) (w : World) (hl : l.length = n) (hr : Rd w A l) (hn : n ≤ maxLen) :
    Calls Try.prog 17 #[.agg (rowF 8 h.get), .slice A n c] w (GotK w h l) := by
  unfold maxLen at hn
  have hz := zero8
  have hz64 := zero64
  have HL := Lib.hid hl
  have HR := Lib.hid hr
  clear hl hr
  have i0 : Hw ((w.alloc (.cells (rowF 8 h.get) 31)).alloc (.cells tab8 31)) w.heap.size 31 8 h.get := (Hw.new rfl).alloc _
  have i1 : Hw ((w.alloc (.cells (rowF 8 h.get) 31)).alloc (.cells tab8 31)) (w.heap.size + 1) 31 8 (fun _ => 0) := Hw.new2 _ tab8_row
  have iB : Below w.heap.size w ((w.alloc (.cells (rowF 8 h.get) 31)).alloc (.cells tab8 31)) := bl_alloc (bl_alloc (Below.refl _ _) _) _
  have I0 := Lib.hid i0
  have I1 := Lib.hid i1
  have IB := Lib.hid iB
  clear i0 i1 iB
  by_cases h64 : n = 64
  · subst h64
    go_enter Try.func17, Try.ntmps17
    go_wp2_with fail
    generalize (w.alloc (.cells (rowF 8 h.get) 31)).alloc (.cells tab8 31) = w0 at *
    refine (roundWords_f _).mono ?_
    rintro e w1 ⟨rfl, hb1⟩
    have J0 := Lib.hid ((I0.out.below hb1).alloc (.cells tab64 57))
    have J1 := Lib.hid ((I1.out.below hb1).alloc (.cells tab64 57))
    have JB := Lib.hid (bl_alloc (bl_trans IB.out hb1) (.cells tab64 57))
    have hs1 : w.heap.size + 1 < w1.heap.size := (I1.out.below hb1).lt
    have j6 : (w1.alloc (.cells tab64 57)).heap[w1.heap.size]? = some (.cells tab64 57 (0, 0)) := heap_alloc_new w1 _
    have J6 := Lib.hid j6
    clear I0 I1 IB hb1 j6
    go_wp2_with (first
      | (refine wpList_store_row rfl 57 _ _ rfl w1.heap.size _ rfl rfl 57 _ J6.out (by rw [size64, rowF_size]) (by rw [rowF_size]; rfl) (rowF_one _ _) ?_)
      | (refine wpList_load_row rfl 31 _ rfl w.heap.size rfl 31 _ (0, 0) _ (show ((w1.alloc (.cells tab64 57)).setRow w1.heap.size (rowF 64 kW)).heap[w.heap.size]? = some (.cells (rowF 8 h.get) 31 (0, 0)) from (setRow_other _ _ _ _ (by omega)).trans J0.out) Try.underlying31 rfl (by rw [size8, rowF_size]) ?_))
    have m0 : Hw ((w1.alloc (.cells tab64 57)).setRow w1.heap.size (rowF 64 kW)) w1.heap.size 57 64 kW := setRow_heap _ _ _ _ _ _ J6.out
    have m1 : Hw ((w1.alloc (.cells tab64 57)).setRow w1.heap.size (rowF 64 kW)) (w.heap.size + 1) 31 8 (fun _ => 0) := (setRow_other _ _ _ _ (by omega)).trans J1.out
    have mB : Below w.heap.size w ((w1.alloc (.cells tab64 57)).setRow w1.heap.size (rowF 64 kW)) := bl_setRow JB.out (by omega) _
    generalize (w1.alloc (.cells tab64 57)).setRow w1.heap.size (rowF 64 kW) = w2 at *
    refine (goneOn_any h A c l _ w1.heap.size HL.out (HR.out.below mB) m0).mono ?_
    rintro e w3 ⟨rfl, hb3⟩
    have M1 := Lib.hid (m1.below hb3)
    have MB := Lib.hid (bl_trans mB hb3)
    clear m0 m1 mB hb3 J0 J1 JB J6
    go_wp2_with (refine wpList_store_row rfl 31 _ _ rfl (w.heap.size + 1) _ rfl rfl 31 _ M1.out (by rw [size8, rowF_size]) (by rw [rowF_size, rowF_size]) (rowF_one _ _) ?_)
    refine bodyPost_ret (v := .tuple #[.agg (rowF 8 (blockE h l).get), .int .i64 0]) (results_cell_row_tmp rfl _ _ (w.heap.size + 1) _ _ rfl rfl (load8 (setRow_heap _ _ _ _ _ _ M1.out) (by rw [rowF_size]))) rfl ⟨?_, bl_setRow MB.out (by omega) _⟩
    unfold blockF blockR
    rw [if_pos HL.out, if_pos HL.out]
  · have hb : ((n : Int) != 64) = true := by simp; omega
    have H := Lib.hid h64
    clear h64
    go_enter Try.func17, Try.ntmps17
    go_wp2_with (refine wpList_store_row rfl 31 _ _ rfl (w.heap.size + 1) _ rfl rfl 31 _ I1.out (by rw [size8]; rfl) (by rw [rowF_size]; rfl) tab8_one ?_)
    refine bodyPost_ret (v := .tuple #[.agg tab8, .int .i64 2]) (results_cell_row_tmp rfl _ _ (w.heap.size + 1) _ _ rfl rfl (load8 (setRow_heap _ _ _ _ _ _ I1.out) rfl)) rfl ⟨?_, bl_setRow IB.out (by omega) _⟩
    have e : tab8 = rowF 8 (S8.of fun _ => 0).get := by rw [tab8_row]; exact rowF_congr 8 (fun j hj => (S8.of_get (fun _ => 0) j hj).symm)
    unfold blockF blockR
    rw [if_neg (by rw [HL.out]; exact H.out), if_neg (by rw [HL.out]; exact H.out), e]

/-- A root that is known. -/
theorem root_is (p n : Nat) (z : Int) (hp : p = 2 ∨ p = 3) (h1 : 1 ≤ n) (hn : n ≤ 1000) (hz : ((rootW p n).toNat : Int) = z) (w : World) :
    Calls Try.prog 31 #[.int .i64 (p : Int), .int .i64 (n : Int), .int .u32 z] w (GotB w true) := by
  have hr : ∀ W, Calls Try.prog 8 #[.int .i64 (p : Int), .int .i64 (n : Int)] W fun e w' => e = .returned (.tuple #[.int .u32 z, .int .i64 0]) ∧ W = w' := fun W => by
    subst hz
    exact Root_yes p n hp h1 hn W
  have HR := Lib.hid hr
  clear hr hz
  have b1 : (z == z) = true := by simp
  clear hp
  go_enter Try.func31, Try.ntmps31
  go_wp2_with fail
  refine (HR.out _).mono ?_
  rintro e w1 ⟨rfl, rfl⟩
  go_wp2
  go_ret
  exact ⟨rfl, rfl⟩

theorem know1 : ((rootW 2 2).toNat : Int) = 1779033703 := by decide +kernel
theorem know2 : ((rootW 3 2).toNat : Int) = 1116352408 := by decide +kernel
theorem know3 : ((rootW 2 4).toNat : Int) = 0 := by decide +kernel
theorem know4 : hexE (byteOf (stateE [])) = [101, 51, 98, 48, 99, 52, 52, 50, 57, 56, 102, 99, 49, 99, 49, 52, 57, 97, 102, 98, 102, 52, 99, 56, 57, 57, 54, 102, 98, 57, 50, 52, 50, 55, 97, 101, 52, 49, 101, 52, 54, 52, 57, 98, 57, 51, 52, 99, 97, 52, 57, 53, 57, 57, 49, 98, 55, 56, 53, 50, 98, 56, 53, 53] := by decide +kernel
theorem know5 : hexE (byteOf (stateE [97, 98, 99])) = [98, 97, 55, 56, 49, 54, 98, 102, 56, 102, 48, 49, 99, 102, 101, 97, 52, 49, 52, 49, 52, 48, 100, 101, 53, 100, 97, 101, 50, 50, 50, 51, 98, 48, 48, 51, 54, 49, 97, 51, 57, 54, 49, 55, 55, 97, 57, 99, 98, 52, 49, 48, 102, 102, 54, 49, 102, 50, 48, 48, 49, 53, 97, 100] := by decide +kernel

def GotBool (w : World) (b : Bool) (e : Ending) (w' : World) : Prop := e = .returned (.bool b) ∧ Below w.heap.size w w'

/-- Hex at digits that are known. -/
theorem hex_is (f : Nat → UInt8) (l : List UInt8) (h : hexE f = l) (w : World) : Calls Try.prog 21 #[.agg (rowB 32 f)] w (GotS w l) := by
  subst h
  exact hex_any f w

set_option maxHeartbeats 2000000 in
set_option maxRecDepth 100000 in
theorem awake_any (w : World) : Calls Try.prog 10 #[] w (GotBool w true) := by
  have kc := fun (w : World) (C : Array Value) (n c : Nat) => Lib.run_convert_bytes_const (P := Try.prog) w 28 5 C n c Try.underlying28 Try.underlying5
  go_enter Try.func10, Try.ntmps10
  go_wp2_with fail
  refine (Root_no 2 0 (by decide) _).mono ?_
  rintro e w1 ⟨rfl, rfl⟩
  go_wp2_with fail
  refine (root_is 2 2 1779033703 (by decide) (by decide) (by decide) know1 _).mono ?_
  rintro e w1 ⟨rfl, rfl⟩
  go_wp2_with fail
  refine (root_is 3 2 1116352408 (by decide) (by decide) (by decide) know2 _).mono ?_
  rintro e w1 ⟨rfl, rfl⟩
  go_wp2_with fail
  refine (root_is 2 4 0 (by decide) (by decide) (by decide) know3 _).mono ?_
  rintro e w1 ⟨rfl, rfl⟩
  go_wp2_with fail
  refine (of_any none 0 0 [] _ rfl (Rd.nil _ _) (by omega)).mono ?_
  rintro e w1 ⟨rfl, hb1⟩
  go_wp2_with fail
  refine (hex_is _ _ know4 _).mono ?_
  rintro e w2 ⟨rfl, hb2⟩
  have B2 := Lib.hid (bl_trans hb1 hb2)
  clear hb1 hb2
  go_wp2_with fail
  refine (of_any (some ⟨w2.heap.size, 0, none⟩) 3 3 [97, 98, 99] _ rfl (Rd.litF w2 [97, 98, 99] (3, 4)) (by omega)).mono ?_
  rintro e w3 ⟨rfl, hb3⟩
  have B3 := Lib.hid (bl_trans (bl_alloc B2.out _) hb3)
  clear hb3 B2
  go_wp2_with fail
  refine (hex_is _ _ know5 _).mono ?_
  rintro e w4 ⟨rfl, hb4⟩
  go_wp2
  go_ret
  exact ⟨rfl, bl_trans B3.out hb4⟩

end Go.Proofs.Ythpcmceomamadaa
