/- A disk's Size and Turn: contracts over the translated program. No condition but that the disk lies in memory as said, and what each statement names. -/
import Derived.Test.YtdgaipdpebinbaaJoX
import Derived.Test.YtdgaipdpebinbaaJoY
set_option linter.unusedVariables false
set_option linter.unusedSimpArgs false
namespace Go.Proofs.Ytdgaipdpebinbaa
open Go.RowKit Go.Maps Go.Shelf Go.Sort

theorem xor_bit (c : UInt8) (k : Nat) (z : Int) (hz : z = (((UInt8.ofNat (2 ^ k)).toNat : Nat) : Int)) : Value.int .u8 (bits .xor .u8 (c.toNat : Int) z) = bv (c ^^^ UInt8.ofNat (2 ^ k)) := by
  subst hz
  unfold bv
  rw [xor8]
section
variable {w : World} {own : Nat → Option Role} {d bn bk : Nat} {loc : Nat → Nat} {s : DS} {L : Nat → Prop}
theorem size_any (hA : At w own d bn bk loc s (Ref s)) (hg : Good s) (hd : s.dead = false) (t : ByteArray) (ht : t.size ≤ maxLen) (i : Nat) (f : Fil) (hn : getE s.now t.data.toList = some i) (hf : s.files[i]? = some f) (z : Int) (hz : ((f.data.length : Nat) : Int) = z) :
    Calls Try.prog 19 #[.pointer (some ⟨d, 0, none⟩), .string t] w (fun e w' => e = .returned (.tuple #[.int .i64 z, .int .i64 0]) ∧ w' = w) := by
  subst hz
  have hq := find_any hA hd t ht
  rw [hn] at hq
  simp only [Option.map_some] at hq
  have hL : Ref s i := ref_get hg.inv.now.1 hn
  obtain ⟨o1, v, g1, g2, g3⟩ := hA.file i _ hf hL
  obtain ⟨A, n, c, rfl, hnl, hnc, hcm, hr⟩ := g2.form
  have f3 := g1.cell 3 _ rfl
  have HNL := Lib.hid hnl.out
  clear g1 g2 g3 hnl
  go_enter Try.func19, Try.ntmps19
  go_wp2_with ((with_reducible refine hq.mono ?_); rintro e w ⟨rfl, rfl⟩; simp only [pv])
  go_ret2
  exact ⟨by rw [HNL.out]; rfl, rfl⟩
set_option maxHeartbeats 4000000 in
set_option maxRecDepth 40000 in
theorem turn_any (hA : At w own d bn bk loc s (Ref s)) (hg : Good s) (hd : s.dead = false) (t : ByteArray) (ht : t.size ≤ maxLen) (i q : Nat) (f : Fil) (hn : getE s.now t.data.toList = some i) (hf : s.files[i]? = some f) (hq8 : q < 8 * f.data.length) (p b : Nat) (hp : p = q / 8) (hb : b = q % 8) :
    Calls Try.prog 22 #[.pointer (some ⟨d, 0, none⟩), .string t, .int .i64 (p : Int), .int .i64 (b : Int)] w (GotA w own d (.int .i64 0) (turnE s i q)) := by
  have hq := find_any hA hd t ht
  rw [hn] at hq
  simp only [Option.map_some] at hq
  have hL : Ref s i := ref_get hg.inv.now.1 hn
  obtain ⟨o1, v, g1, g2, g3⟩ := hA.file i _ hf hL
  have hpl : p < f.data.length := by omega
  have hb8 : b < 8 := by omega
  obtain ⟨A, n, c, rfl, hnl, hnc, hcm, hr⟩ := g2.form
  obtain ⟨_, g, rfl, _, hglt, _, _⟩ := g2.head (by have := hnl.out; omega)
  have f3 := g1.cell 3 _ rfl
  have cp := g2.cellAt hpl
  have zp := g2.frozenAt p
  have og : own g = some (.data i) := g3 g rfl
  have hgl : g ≠ loc i := fun e => by rw [e, o1] at og; cases og
  have hpn : p < n := by have := hnl.out; omega
  have d1 : decide ((n : Int) ≤ (p : Int)) = false := by simp; omega
  have key : ∀ u : Value, u = bv (f.data[p] ^^^ UInt8.ofNat (2 ^ b)) → At ((w.setCell ⟨g, p, none⟩ u)) own d bn bk loc (turnE s i q) (Ref (turnE s i q)) ∧ Kept w (w.setCell ⟨g, p, none⟩ u) own own := fun u hu => by
    have hst := g2.stored p (f.data[p] ^^^ UInt8.ofNat (2 ^ b)) u hu
    have hflip : f.data.set p (f.data[p] ^^^ UInt8.ofNat (2 ^ b)) = flip f.data q := by
      unfold flip
      have e : f.data.getD (q / 8) 0 = f.data[p] := by subst hp; simp [List.getD, hpl]
      rw [e]
      have h9 : ∀ y, f.data.set p (y ^^^ UInt8.ofNat (2 ^ b)) = f.data.set (q / 8) (y ^^^ UInt8.ofNat (2 ^ (q % 8))) := fun y => by rw [hp, hb]
      exact h9 _
    rw [hflip] at hst
    have h2 := hA.setFile i ⟨flip f.data q, f.mark, f.named⟩ (List.getElem?_eq_some_iff.1 hf).1 hst.2 (.inr og) ⟨o1, _, g1.same (hst.2.block (loc i) g1.lt (fun e => hgl (by simpa using e.symm))), hst.1, g3⟩
    refine ⟨?_, (Kept.refl _ _).set (by show own g ≠ none; rw [og]; simp) _⟩
    rw [turn_is hf]
    exact At.less h2 fun j hj => hj
  have KEY := Lib.hid key
  obtain ⟨x, hx⟩ : ∃ x, x = f.data[p] := ⟨_, rfl⟩
  rw [← hx] at cp KEY
  clear g1 g2 g3 hnl hr key hx hq8 hp hb
  have hbb : b = 0 ∨ b = 1 ∨ b = 2 ∨ b = 3 ∨ b = 4 ∨ b = 5 ∨ b = 6 ∨ b = 7 := by omega
  rcases hbb with rfl | rfl | rfl | rfl | rfl | rfl | rfl | rfl
  · go_enter Try.func22, Try.ntmps22
    go_wp2_with ((with_reducible refine hq.mono ?_); rintro e w ⟨rfl, rfl⟩; simp only [pv])
    go_region
    go_wp2_with fail
    go_ret
    obtain ⟨h1, h2⟩ := KEY.out _ (xor_bit x 0 1 rfl)
    exact ⟨rfl, own, ⟨bn, bk, loc, h1.drew⟩, h2.drew⟩
  · go_enter Try.func22, Try.ntmps22
    go_wp2_with ((with_reducible refine hq.mono ?_); rintro e w ⟨rfl, rfl⟩; simp only [pv])
    go_region
    go_wp2_with fail
    go_ret
    obtain ⟨h1, h2⟩ := KEY.out _ (xor_bit x 1 2 rfl)
    exact ⟨rfl, own, ⟨bn, bk, loc, h1.drew⟩, h2.drew⟩
  · go_enter Try.func22, Try.ntmps22
    go_wp2_with ((with_reducible refine hq.mono ?_); rintro e w ⟨rfl, rfl⟩; simp only [pv])
    go_region
    go_wp2_with fail
    go_ret
    obtain ⟨h1, h2⟩ := KEY.out _ (xor_bit x 2 4 rfl)
    exact ⟨rfl, own, ⟨bn, bk, loc, h1.drew⟩, h2.drew⟩
  · go_enter Try.func22, Try.ntmps22
    go_wp2_with ((with_reducible refine hq.mono ?_); rintro e w ⟨rfl, rfl⟩; simp only [pv])
    go_region
    go_wp2_with fail
    go_ret
    obtain ⟨h1, h2⟩ := KEY.out _ (xor_bit x 3 8 rfl)
    exact ⟨rfl, own, ⟨bn, bk, loc, h1.drew⟩, h2.drew⟩
  · go_enter Try.func22, Try.ntmps22
    go_wp2_with ((with_reducible refine hq.mono ?_); rintro e w ⟨rfl, rfl⟩; simp only [pv])
    go_region
    go_wp2_with fail
    go_ret
    obtain ⟨h1, h2⟩ := KEY.out _ (xor_bit x 4 16 rfl)
    exact ⟨rfl, own, ⟨bn, bk, loc, h1.drew⟩, h2.drew⟩
  · go_enter Try.func22, Try.ntmps22
    go_wp2_with ((with_reducible refine hq.mono ?_); rintro e w ⟨rfl, rfl⟩; simp only [pv])
    go_region
    go_wp2_with fail
    go_ret
    obtain ⟨h1, h2⟩ := KEY.out _ (xor_bit x 5 32 rfl)
    exact ⟨rfl, own, ⟨bn, bk, loc, h1.drew⟩, h2.drew⟩
  · go_enter Try.func22, Try.ntmps22
    go_wp2_with ((with_reducible refine hq.mono ?_); rintro e w ⟨rfl, rfl⟩; simp only [pv])
    go_region
    go_wp2_with fail
    go_ret
    obtain ⟨h1, h2⟩ := KEY.out _ (xor_bit x 6 64 rfl)
    exact ⟨rfl, own, ⟨bn, bk, loc, h1.drew⟩, h2.drew⟩
  · go_enter Try.func22, Try.ntmps22
    go_wp2_with ((with_reducible refine hq.mono ?_); rintro e w ⟨rfl, rfl⟩; simp only [pv])
    go_region
    go_wp2_with fail
    go_ret
    obtain ⟨h1, h2⟩ := KEY.out _ (xor_bit x 7 128 rfl)
    exact ⟨rfl, own, ⟨bn, bk, loc, h1.drew⟩, h2.drew⟩
end
end Go.Proofs.Ytdgaipdpebinbaa
