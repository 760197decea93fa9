/- What has no room is refused, and changes nothing; what is gone by kept names, too, gives its room back: DiskRoom, of all rooms up to 200, and how many bytes two files are to have. No condition. -/
import Derived.Test.YtjkfmgppmpjcmaaDiskKeeps
import Derived.Test.YtjkfmgppmpjcmaaDkRm
set_option linter.unusedVariables false
set_option linter.unusedSimpArgs false
namespace Go.Proofs.Ytjkfmgppmpjcmaa
open Go.RowKit Go.Maps Go.Shelf Go.Sort Go.ChangeShapes Go.WideShapes Go.ChangeAt

/-- A row of noughts. -/
def nulls (n : Nat) : Array Value := ((List.replicate n (0 : UInt8)).map bv).toArray
theorem nulls_made (n : Nat) : madeCells #[Value.int .u8 0] n = nulls n := by
  unfold madeCells nulls
  apply Array.ext
  · simp
  · intro i h1 h2
    simp [Nat.mod_one, bv]
/-- 'make([]byte, n)'. -/
theorem make_bytes (n : Nat) (hn : n ≤ 100000) (W : World) :
    (Instr.makeSlice 28 (.int .i64 (n : Int)) (.int .i64 (n : Int))).run Try.prog W = .ok (.slice (some ⟨W.heap.size, 0, none⟩) n n) (W.alloc (.cells (nulls n) 5)) := by
  obtain ⟨i, hi, hz, hs, hb⟩ := info_parts info_u8
  rw [run_make (P := Try.prog) W 28 5 i (.int .u8 0) Try.underlying28 hi hz .i64 .i64 n n (by omega) (Int.le_refl _) (by rw [hb]; omega) (by omega), hs]
  have e : (Value.int .u8 0).cells = #[Value.int .u8 0] := rfl
  rw [e, Int.toNat_natCast, Nat.mul_one, nulls_made]
theorem lies_left {w wr : World} {own : Nat → Option Role} {d : Nat} {s : DS} (hL : Lies w wr own d s) {k m r : Nat} (hR : Run s k m r) (hm : m ≤ 1000000) (hr : r ≤ 16777216) (z : Int) (hz : (s.room : Int) - (s.used : Int) = z) :
    Calls Try.prog 21 #[.pointer (some ⟨d, 0, none⟩)] wr (fun e w' => e = .returned (.int .i64 z) ∧ Lies w w' own d s) := by
  subst hz
  obtain ⟨bn, bk, loc, hA⟩ := hL.disk
  refine (left_any hA hR.live (by rw [hR.room]; exact hr) (by have := used_le hR; omega)).mono ?_
  rintro e w' ⟨rfl, rfl⟩
  exact ⟨rfl, hL.on (Below.refl _ _).drew⟩
theorem lies_remove {w wr : World} {own : Nat → Option Role} {d : Nat} {s : DS} (hL : Lies w wr own d s) {k m r : Nat} (hR : Run s k m r) (hk : k ≤ 1000) (hm : m ≤ 1000000) (t : ByteArray) (ht : t.size ≤ 40) (tl : BS) (htl : t.data.toList = tl) (z : Int) (s2 : DS) (hz : dE s ⟨3, tl, [], []⟩ = (s2, z.toNat)) (hz0 : 0 ≤ z) :
    Calls Try.prog 24 #[.pointer (some ⟨d, 0, none⟩), .string t] wr (fun e w' => e = .returned (.int .i64 z) ∧ ∃ own2, Lies w w' own2 d s2) := by
  subst htl
  obtain ⟨bn, bk, loc, hA⟩ := hL.disk
  refine (remove_any hA (good_of hR.inv (hR.bnd.mono hk hm)) hR.live t (by omega)).mono ?_
  intro e w' h
  rw [hz] at h
  obtain ⟨h1, own2, h2, _⟩ := lies_got hL h
  refine ⟨?_, own2, h2⟩
  rw [h1]
  simp only [Int.toNat_of_nonneg hz0]
theorem lies_names2 {w wr : World} {own : Nat → Option Role} {d : Nat} {s : DS} (hL : Lies w wr own d s) {n : Nat} (hI : OkM n s.now) (hd : s.dead = false) (hf : s.now.length ≤ 1000000000) (ns : List BS) (hns : s.now.map (·.1) = ns) :
    Calls Try.prog 19 #[.pointer (some ⟨d, 0, none⟩)] wr (GotNames wr ns) := by
  subst hns
  obtain ⟨bn, bk, loc, hA⟩ := hL.disk
  exact names_any hA hI hd hf

set_option maxHeartbeats 4000000 in
set_option maxRecDepth 40000 in
theorem room_walk (z0 z1 z2 : Int) (w : World) (a0 : -9223372036854775808 ≤ z0) (b0 : z0 ≤ 9223372036854775807) (a1 : -9223372036854775808 ≤ z1) (b1 : z1 ≤ 9223372036854775807) (a2 : -9223372036854775808 ≤ z2) (b2 : z2 ≤ 9223372036854775807) :
    Calls Try.prog 7 #[.int .i64 z0, .int .i64 z1, .int .i64 z2] w (Yes w) := by
  obtain ⟨r, hr, hr2⟩ : ∃ r : Nat, z0 % 201 = (r : Int) ∧ r ≤ 200 := by
    have h1 := Int.emod_nonneg z0 (b := 201) (by omega)
    have h2 := Int.emod_lt_of_pos z0 (b := 201) (by omega)
    exact ⟨(z0 % 201).toNat, by omega, by omega⟩
  obtain ⟨m, hm, hm2⟩ : ∃ r : Nat, z1 % 150 = (r : Int) ∧ r ≤ 149 := by
    have h1 := Int.emod_nonneg z1 (b := 150) (by omega)
    have h2 := Int.emod_lt_of_pos z1 (b := 150) (by omega)
    exact ⟨(z1 % 150).toNat, by omega, by omega⟩
  obtain ⟨n, hn, hn2⟩ : ∃ r : Nat, z2 % 150 = (r : Int) ∧ r ≤ 149 := by
    have h1 := Int.emod_nonneg z2 (b := 150) (by omega)
    have h2 := Int.emod_lt_of_pos z2 (b := 150) (by omega)
    exact ⟨(z2 % 150).toNat, by omega, by omega⟩
  have hb0 : ∀ W, Calls Try.prog 23 #[.int .i64 z0, .int .i64 201] W (GotV W (.int .i64 (r : Int))) := fun W => by rw [← hr]; exact bring_any z0 201 W a0 b0 (by omega) (by omega)
  have hb1 : ∀ W, Calls Try.prog 23 #[.int .i64 z1, .int .i64 150] W (GotV W (.int .i64 (m : Int))) := fun W => by rw [← hm]; exact bring_any z1 150 W a1 b1 (by omega) (by omega)
  have hb2 : ∀ W, Calls Try.prog 23 #[.int .i64 z2, .int .i64 150] W (GotV W (.int .i64 (n : Int))) := fun W => by rw [← hn]; exact bring_any z2 150 W a2 b2 (by omega) (by omega)
  have hmk1 := make_bytes m (by omega)
  have hmk2 := make_bytes n (by omega)
  have hnew := Lib.hid (new_any w r (by omega))
  obtain ⟨B, hB, hBl⟩ : ∃ B : BS, List.replicate m (0 : UInt8) = B ∧ B.length = m := ⟨_, rfl, by simp⟩
  obtain ⟨C, hC, hCl⟩ : ∃ C : BS, List.replicate n (0 : UInt8) = C ∧ C.length = n := ⟨_, rfl, by simp⟩
  have hnB : nulls m = (B.map bv).toArray := by unfold nulls; rw [hB]
  have hnC : nulls n = (C.map bv).toArray := by unfold nulls; rw [hC]
  rw [hnB] at hmk1
  rw [hnC] at hmk2
  have HBl := Lib.hid hBl
  have HCl := Lib.hid hCl
  have hrun0 := run_new r
  clear hr hm hn hB hC hnB hnC hBl hCl a0 b0 a1 b1 a2 b2
  have hsm : ∀ (l : BS), Dd.small ⟨0, [97], [], l⟩ ∧ Dd.small ⟨0, [98], [], l⟩ := fun l => ⟨⟨by show 1 ≤ 40; omega, by show 0 ≤ 40; omega⟩, ⟨by show 1 ≤ 40; omega, by show 0 ≤ 40; omega⟩⟩
  have hs3 : Dd.small ⟨3, [97], [], []⟩ := ⟨by show 1 ≤ 40; omega, by show 0 ≤ 40; omega⟩
  have hs4 : Dd.small ⟨4, [], [], []⟩ := ⟨by show 0 ≤ 40; omega, by show 0 ≤ 40; omega⟩
  by_cases h1 : m ≤ r
  · have t1 : decide ((m : Int) ≤ (r : Int)) = true := by simp; omega
    have e0 := room0 (r := r) (B := B) (by have := HBl.out; omega)
    have hrun1 := run_d hrun0 (hsm B).1
    rw [e0] at hrun1
    have hrun2 := run_d hrun1 hs4
    rw [room1] at hrun2
    have hrun3 := run_d hrun2 hs3
    rw [room2] at hrun3
    have R1 := Lib.hid hrun1
    have R2 := Lib.hid hrun2
    have R3 := Lib.hid hrun3
    have E0 := Lib.hid e0
    clear hrun1 hrun2 hrun3 e0
    by_cases h2 : m + n ≤ r
    · have t2 : decide ((m : Int) + (n : Int) ≤ (r : Int)) = true := by simp; omega
      have e3 := room3 (r := r) (B := B) (C := C) (by have := HBl.out; have := HCl.out; omega)
      have hrun4 := run_d R3.out (hsm C).2
      rw [e3] at hrun4
      have hrun5 := run_d hrun4 hs4
      rw [room4] at hrun5
      have e5 := room5 (r := r) (B := B) (C := C) (E := B) (by have := HBl.out; have := HCl.out; omega)
      have E3 := Lib.hid e3
      have E5 := Lib.hid e5
      have R4 := Lib.hid hrun4
      have R5 := Lib.hid hrun5
      clear e3 e5 hrun4 hrun5
      go_enter Try.func7, Try.ntmps7
      go_wp2_with (first | (go_at_call 23; (with_reducible refine (hb0 _).mono ?_); rintro e w ⟨rfl, rfl⟩) | (go_at_call 23; (with_reducible refine (hb1 _).mono ?_); rintro e w ⟨rfl, rfl⟩) | (go_at_call 23; (with_reducible refine (hb2 _).mono ?_); rintro e w ⟨rfl, rfl⟩))
      refine hnew.out.mono ?_
      rintro e w1 ⟨own0, d, rfl, hd0, hf0, hbl0⟩
      have hL0 : Lies w w1 own0 d (newE r) := ⟨hd0, hf0, hbl0⟩
      clear hd0 hf0 hbl0
      go_wp2_with fail
      refine (lies_append hL0 hrun0 (by omega) (by omega) (by omega) ⟨#[97]⟩ rfl B m m HBl.out (by omega) _ rfl [97] rfl 0 (by rw [E0.out]; rfl) rfl).mono ?_
      rintro e w2 ⟨rfl, own2, hL2⟩
      rw [E0.out] at hL2
      go_wp2_with fail
      refine (lies_names hL2 R1.out (by omega) (by have := HBl.out; omega)).mono ?_
      rintro e w3 ⟨rfl, own3, hL3, _⟩
      rw [room1] at hL3
      go_wp2_with fail
      refine (lies_remove hL3 R2.out (by omega) (by simp; have := HBl.out; omega) ⟨#[97]⟩ (by decide) [97] rfl 0 (rm3 r B) (room2 r B) (by omega)).mono ?_
      rintro e w4 ⟨rfl, own4, hL4⟩
      go_wp2_with fail
      refine (lies_append hL4 R3.out (by omega) (by simp; have := HBl.out; omega) (by omega) ⟨#[98]⟩ rfl C n n HCl.out (by omega) _ rfl [98] rfl 0 (by rw [E3.out]; rfl) rfl).mono ?_
      rintro e w5 ⟨rfl, own5, hL5⟩
      rw [E3.out] at hL5
      go_wp2_with fail
      refine (lies_left hL5 R4.out (by simp; have := HBl.out; have := HCl.out; omega) (by omega) ((r : Int) - (m : Int) - (n : Int)) (by show (r : Int) - ((B.length + C.length : Nat) : Int) = _; have := HBl.out; have := HCl.out; omega)).mono ?_
      rintro e w6 ⟨rfl, hL6⟩
      go_wp2_with fail
      refine (lies_left hL6 R4.out (by simp; have := HBl.out; have := HCl.out; omega) (by omega) ((r : Int) - (m : Int) - (n : Int)) (by show (r : Int) - ((B.length + C.length : Nat) : Int) = _; have := HBl.out; have := HCl.out; omega)).mono ?_
      rintro e w7 ⟨rfl, hL7⟩
      go_wp2_with fail
      all_goals
        refine (lies_names hL7 R4.out (by omega) (by simp; have := HBl.out; have := HCl.out; omega)).mono ?_
        rintro e w8 ⟨rfl, own8, hL8, _⟩
        rw [room4] at hL8
        go_wp2_with fail
        refine (lies_append hL8 R5.out (by omega) (by simp; have := HBl.out; have := HCl.out; omega) (by omega) ⟨#[98]⟩ rfl B m m HBl.out (by omega) _ rfl [98] rfl 0 (by rw [E5.out]; rfl) rfl).mono ?_
        rintro e w9 ⟨rfl, own9, hL9⟩
        go_wp2_with fail
        refine (awake_any _).mono ?_
        rintro e w99 ⟨rfl, hb99⟩
        go_wp2_with fail
        go_ret
        exact ⟨rfl, bl_trans hL9.below hb99⟩
    · have t2 : decide ((m : Int) + (n : Int) ≤ (r : Int)) = false := by simp; omega
      have t5 : (((r : Int) - (m : Int)) == ((r : Int) - (m : Int) - (n : Int))) = false := by simp; omega
      have e3 := room3' (r := r) (B := B) (C := C) (by have := HBl.out; have := HCl.out; omega)
      have hrun6 := run_d R3.out hs4
      rw [room6] at hrun6
      have e5 := room7 (r := r) (B := B) (E := B) (by have := HBl.out; omega)
      have E3 := Lib.hid e3
      have E5 := Lib.hid e5
      have R6 := Lib.hid hrun6
      clear e3 e5 hrun6
      go_enter Try.func7, Try.ntmps7
      go_wp2_with (first | (go_at_call 23; (with_reducible refine (hb0 _).mono ?_); rintro e w ⟨rfl, rfl⟩) | (go_at_call 23; (with_reducible refine (hb1 _).mono ?_); rintro e w ⟨rfl, rfl⟩) | (go_at_call 23; (with_reducible refine (hb2 _).mono ?_); rintro e w ⟨rfl, rfl⟩))
      refine hnew.out.mono ?_
      rintro e w1 ⟨own0, d, rfl, hd0, hf0, hbl0⟩
      have hL0 : Lies w w1 own0 d (newE r) := ⟨hd0, hf0, hbl0⟩
      clear hd0 hf0 hbl0
      go_wp2_with fail
      refine (lies_append hL0 hrun0 (by omega) (by omega) (by omega) ⟨#[97]⟩ rfl B m m HBl.out (by omega) _ rfl [97] rfl 0 (by rw [E0.out]; rfl) rfl).mono ?_
      rintro e w2 ⟨rfl, own2, hL2⟩
      rw [E0.out] at hL2
      go_wp2_with fail
      refine (lies_names hL2 R1.out (by omega) (by have := HBl.out; omega)).mono ?_
      rintro e w3 ⟨rfl, own3, hL3, _⟩
      rw [room1] at hL3
      go_wp2_with fail
      refine (lies_remove hL3 R2.out (by omega) (by simp; have := HBl.out; omega) ⟨#[97]⟩ (by decide) [97] rfl 0 (rm3 r B) (room2 r B) (by omega)).mono ?_
      rintro e w4 ⟨rfl, own4, hL4⟩
      go_wp2_with fail
      refine (lies_append hL4 R3.out (by omega) (by simp; have := HBl.out; omega) (by omega) ⟨#[98]⟩ rfl C n n HCl.out (by omega) _ rfl [98] rfl 52 (by rw [E3.out]; rfl) rfl).mono ?_
      rintro e w5 ⟨rfl, own5, hL5⟩
      rw [E3.out] at hL5
      go_wp2_with fail
      refine (lies_left hL5 R3.out (by simp; have := HBl.out; omega) (by omega) ((r : Int) - (m : Int)) (by show (r : Int) - ((B.length : Nat) : Int) = _; have := HBl.out; omega)).mono ?_
      rintro e w6 ⟨rfl, hL6⟩
      go_wp2_with fail
      refine (lies_left hL6 R3.out (by simp; have := HBl.out; omega) (by omega) ((r : Int) - (m : Int)) (by show (r : Int) - ((B.length : Nat) : Int) = _; have := HBl.out; omega)).mono ?_
      rintro e w7 ⟨rfl, hL7⟩
      go_wp2_with fail
      refine (lies_names hL7 R3.out (by omega) (by simp; have := HBl.out; omega)).mono ?_
      rintro e w8 ⟨rfl, own8, hL8, _⟩
      rw [room6] at hL8
      go_wp2_with fail
      refine (lies_append hL8 R6.out (by omega) (by simp; have := HBl.out; omega) (by omega) ⟨#[98]⟩ rfl B m m HBl.out (by omega) _ rfl [98] rfl 0 (by rw [E5.out]; rfl) rfl).mono ?_
      rintro e w9 ⟨rfl, own9, hL9⟩
      go_wp2_with fail
      refine (awake_any _).mono ?_
      rintro e w99 ⟨rfl, hb99⟩
      go_wp2_with fail
      go_ret
      exact ⟨rfl, bl_trans hL9.below hb99⟩
  · have t1 : decide ((m : Int) ≤ (r : Int)) = false := by simp; omega
    have e0 := room0' (r := r) (B := B) (by have := HBl.out; omega)
    have E0 := Lib.hid e0
    clear e0
    go_enter Try.func7, Try.ntmps7
    go_wp2_with (first | (go_at_call 23; (with_reducible refine (hb0 _).mono ?_); rintro e w ⟨rfl, rfl⟩) | (go_at_call 23; (with_reducible refine (hb1 _).mono ?_); rintro e w ⟨rfl, rfl⟩) | (go_at_call 23; (with_reducible refine (hb2 _).mono ?_); rintro e w ⟨rfl, rfl⟩))
    refine hnew.out.mono ?_
    rintro e w1 ⟨own0, d, rfl, hd0, hf0, hbl0⟩
    have hL0 : Lies w w1 own0 d (newE r) := ⟨hd0, hf0, hbl0⟩
    clear hd0 hf0 hbl0
    go_wp2_with fail
    refine (lies_append hL0 hrun0 (by omega) (by omega) (by omega) ⟨#[97]⟩ rfl B m m HBl.out (by omega) _ rfl [97] rfl 52 (by rw [E0.out]; rfl) rfl).mono ?_
    rintro e w2 ⟨rfl, own2, hL2⟩
    rw [E0.out] at hL2
    go_wp2_with fail
    refine (lies_names2 hL2 (inv_new r).now rfl (by show 0 ≤ _; omega) [] rfl).mono ?_
    rintro e w3 ⟨g3, cap3, rfl, _, hb3⟩
    have hL3 := hL2.on hb3
    go_wp2_with fail
    refine (lies_left hL3 hrun0 (by omega) (by omega) (r : Int) (by show (r : Int) - ((0 : Nat) : Int) = _; omega)).mono ?_
    rintro e w4 ⟨rfl, hL4⟩
    go_wp2_with fail
    refine (awake_any _).mono ?_
    rintro e w99 ⟨rfl, hb99⟩
    go_wp2_with fail
    go_ret
    exact ⟨rfl, bl_trans hL4.below hb99⟩
set_option maxRecDepth 100000 in
theorem DiskRoom_holds : Rows.DiskRoomSaid :=
  OpenClaim.holds_of_wide 7 Try.f7 rfl rfl rfl rfl rfl rfl rfl ⟨rfl, rfl, rfl, rfl, rfl⟩ rfl rfl rfl rfl rfl (by kernel_rfl) Try.func7 (by kernel_rfl)
    (of_decide_eq_true (by kernel_rfl)) (by unfold Func.isWrapper; first | (rw [if_pos (by decide +kernel)]; kernel_rfl) | (rw [if_neg (by decide +kernel)]; exact ⟨rfl, rfl⟩))
    (fun os started H enc _ => law_lifted (s := Rows.diskRoomSpec) Try.func7 (by kernel_rfl) rfl
      (fun H ds h => by rw [Try.params7] at h; match ds, h with | [_, _, _], _ => rfl) (by kernel_rfl) (by kernel_rfl)
      os started H enc
      (ChangeSpec.witness6 (enc := enc) (C := Try.checked) false ⟨#[], #[.int .i64 0, .int .i64 0, .int .i64 0], []⟩ 8 (by kernel_rfl) (by kernel_rfl) (by kernel_rfl) (by kernel_rfl))
      (fun W args ds p h => by
        obtain ⟨⟨base, hok⟩, hA, hl⟩ := h
        rw [Try.params7] at hok hA hl
        obtain ⟨v0, v1, v2, d0, d1, d2, p0, p1, p2, rfl, rfl, rfl, g0, g1, g2⟩ := trodAll_three hA
        obtain ⟨n0, rfl, a0, b0⟩ := open_i64 (hok 0 3 v0 rfl rfl) g0
        obtain ⟨n1, rfl, a1, b1⟩ := open_i64 (hok 1 3 v1 rfl rfl) g1
        obtain ⟨n2, rfl, a2, b2⟩ := open_i64 (hok 2 3 v2 rfl rfl) g2
        exact room_walk n0 n1 n2 W a0 b0 a1 b1 a2 b2))

end Go.Proofs.Ytjkfmgppmpjcmaa
