/- Helpers of the laws of disks: EqBytes, a deed that near made. Contracts over the translated program. No condition but what each statement names. -/
import Derived.Test.YtjkfmgppmpjcmaaDkZ
set_option linter.unusedVariables false
set_option linter.unusedSimpArgs false
namespace Go.Proofs.Ytjkfmgppmpjcmaa
open Go.RowKit Go.Maps Go.Shelf Go.Sort

theorem take_more {l l' : List UInt8} {k : Nat} (h : l.take k = l'.take k) (h1 : k < l.length) (h2 : k < l'.length) (he : l[k] = l'[k]) : l.take (k + 1) = l'.take (k + 1) := by
  rw [List.take_succ_eq_append_getElem h1, List.take_succ_eq_append_getElem h2, h, he]
theorem eq_any (A A' : Option Addr) (n c n' c' : Nat) (l l' : List UInt8) (w : World) (hl : l.length = n) (hl' : l'.length = n') (hr : Rd w A l) (hr' : Rd w A' l') (hn : n ≤ maxLen) (hn' : n' ≤ maxLen) :
    Calls Try.prog 17 #[.slice A n c, .slice A' n' c'] w (GotYes w (decide (l = l'))) := by
  unfold maxLen at hn hn'
  by_cases hne : n = n'
  · subst hne
    have hb : ((n : Int) != (n : Int)) = false := by simp
    go_enter Try.func17, Try.ntmps17
    go_wp2
    go_loopw [5] (fun i wr => ∃ k : Nat, k ≤ n ∧ i = .int .i64 k ∧ l.take k = l'.take k ∧ Below w.heap.size w wr) (fun i _ => n - (intOf i).toNat)
    case atStart => exact ⟨0, Nat.zero_le _, rfl, by simp, Below.refl _ _⟩
    case round =>
      obtain ⟨k, hk, rfl, hp, hbl⟩ := hrel
      have HP := Lib.hid hp
      have HL := Lib.hid hl
      have HL' := Lib.hid hl'
      clear hp hl hl'
      by_cases hlt : k < n
      · have h1 : k < l.length := by have := HL.out; omega
        have h2 : k < l'.length := by have := HL'.out; omega
        obtain ⟨ad, rfl, hc⟩ := (hr.below hbl).cell h1
        obtain ⟨ad', rfl, hc'⟩ := (hr'.below hbl).cell h2
        clear hr hr'
        go_wp2
        by_cases hx : l[k] = l'[k]
        · have hb : ((l[k].toNat : Int) != (l'[k].toNat : Int)) = false := by simp [hx]
          have HX := Lib.hid hx
          clear hx
          go_quiet (fail)
          go_wp2
          exact ⟨⟨k + 1, by omega, by go_num, take_more HP.out h1 h2 HX.out, bl_drewN hbl _⟩, by simp [intOf]; omega⟩
        · have hb : ((l[k].toNat : Int) != (l'[k].toNat : Int)) = true := by
            simp only [bne_iff_ne, ne_eq]
            intro h
            exact hx (UInt8.toNat_inj.1 (by omega))
          have HX := Lib.hid hx
          clear hx
          go_quiet (fail)
          go_wp2
          go_ret
          refine ⟨?_, bl_drewN hbl _⟩
          have : l ≠ l' := fun h => HX.out (by subst h; rfl)
          simp [this]
      · go_wp2
        go_ret
        refine ⟨?_, hbl⟩
        have h := HP.out
        rw [List.take_of_length_le (by have := HL.out; omega), List.take_of_length_le (by have := HL'.out; omega)] at h
        simp [h]
  · have hb : ((n : Int) != (n' : Int)) = true := by simp; omega
    have HN := Lib.hid hne
    clear hne
    go_enter Try.func17, Try.ntmps17
    go_wp2
    go_ret
    refine ⟨?_, Below.refl _ _⟩
    have : l ≠ l' := fun h => HN.out (by subst h; omega)
    simp [this]

set_option maxHeartbeats 400000 in
set_option maxRecDepth 20000 in

def nearM (x : MD) : MD := ⟨x.k % 5, x.N, x.B, ⟨#[nameE x.G.size]⟩, ⟨#[nameE x.V.size]⟩, x.A, min x.m 30, x.c, x.A2, x.m2, x.c2, x.b.take 30⟩
theorem isN_one (c : UInt8) : isN ⟨#[c]⟩ = true := rfl
theorem near_may (x : MD) : (nearM x).May := by
  have h1 := Int.emod_nonneg x.k (b := 5) (by omega)
  have h2 := Int.emod_lt_of_pos x.k (b := 5) (by omega)
  exact ⟨h1, h2, fun _ => rfl, fun _ => rfl, by show 1 ≤ 40; omega, by show 1 ≤ 40; omega⟩
theorem near_len {w : World} {x : MD} (h : x.Ok w) : (nearM x).b.length = (nearM x).m := by
  show (x.b.take 30).length = min x.m 30
  rw [List.length_take, h.len]
  omega
theorem near_small (x : MD) : (nearM x).dd.small ∧ (nearM x).dd.b.length ≤ 30 := by
  refine ⟨⟨by show 1 ≤ 40; omega, by show 1 ≤ 40; omega⟩, ?_⟩
  show (x.b.take 30).length ≤ 30
  rw [List.length_take]
  omega
theorem near_md (x : MD) (w : World) {w0 : World} (h : x.Ok w0) : Calls Try.prog 9 #[x.val] w (fun e w' => e = .returned (nearM x).val ∧ Below w.heap.size w w') := by
  refine (near_any x.k x.N x.B x.G x.V x.A x.m x.c x.A2 x.m2 x.c2 w h.k1 h.k2 h.g h.v h.mc h.c).mono ?_
  rintro e w' ⟨j, rfl, rfl, hb⟩
  exact ⟨rfl, hb⟩
/-- A deed that near made, done. -/
theorem does_near {w wr : World} {own : Nat → Option Role} {d : Nat} {s : DS} (hL : Lies w wr own d s) {k m r : Nat} (hR : Run s k m r) (hk : k ≤ 1000) (hm : m ≤ 1000000) (hr : r ≤ 16777216) (x : MD) (h : x.Ok w) :
    Calls Try.prog 10 #[(nearM x).val, .pointer (some ⟨d, 0, none⟩)] wr (GotA wr own d (.int .i64 ((dE s (nearM x).dd).2 : Nat)) (dE s (nearM x).dd).1) := by
  obtain ⟨bn, bk, loc, hA⟩ := hL.disk
  have hrd : Rd w (nearM x).A (nearM x).b := h.rd.take 30
  exact does_any hA hR hk hm hr (nearM x) (near_may x) (near_len h) (hrd.below hL.below) (rd_free hL hrd) (by show min x.m 30 ≤ _; omega)
def ddN (x : MD) : Dd := (nearM x).dd
theorem run_near (R : Nat) (D : List MD) (j : Nat) : Run (dsE (newE R) ((D.take j).map ddN)) j (j * 30) R := by
  have h1 := run_ds (run_new R) 30 ((D.take j).map ddN) (fun x hx => by
    obtain ⟨y, hy, rfl⟩ := List.mem_map.1 hx
    exact near_small y)
  have hlen : ((D.take j).map ddN).length ≤ j := by simp; omega
  exact h1.mono (by omega) (by
    have : ((D.take j).map ddN).length * 30 ≤ j * 30 := Nat.mul_le_mul_right 30 hlen
    omega)
theorem near_next (R : Nat) {D : List MD} {j : Nat} (hj : j < D.length) : (dE (dsE (newE R) ((D.take j).map ddN)) (nearM D[j]).dd).1 = dsE (newE R) ((D.take (j + 1)).map ddN) := by
  rw [List.take_succ_eq_append_getElem hj, List.map_append, List.map_singleton, dsE_snoc]
  rfl
end Go.Proofs.Ytjkfmgppmpjcmaa
