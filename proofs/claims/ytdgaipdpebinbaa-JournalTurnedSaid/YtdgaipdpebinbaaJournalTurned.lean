/- If up to 32 bits, one behind the other, are turned in "journal", Open answers ErrCorrupt: JournalTurned, of all lists of bytes, where the bits begin, and which. No condition. -/
import Derived.Test.YtdgaipdpebinbaaJoZ
import Derived.Test.YtdgaipdpebinbaaJournalReads
import Derived.Test.YtdgaipdpebinbaaRow32
set_option linter.unusedVariables false
set_option linter.unusedSimpArgs false
namespace Go.Proofs.Ytdgaipdpebinbaa
open Go.RowKit Go.Maps Go.Shelf Go.Sort Go.ChangeShapes Go.WideShapes Go.ChangeAt

section
variable {w wr : World} {own : Nat → Option Role} {d J cnt kp : Nat} {s : DS} {k m r : Nat}
theorem lies_wrong (hL : Lies w wr own d s) (hR : Run s k m r) (hk : k ≤ 900) (hm : m ≤ 1000000) (hr : r ≤ 16777216) (h0 : (opnE s).2 = ([], 70)) :
    Calls Try.prog 16 #[.pointer (some ⟨d, 0, none⟩)] wr (fun e w' => e = .returned (.tuple #[.pointer none, .slice none 0 0, .int .i64 70]) ∧ Below w.heap.size w w') := by
  refine (open_any hL.disk hR hk hm hr).mono ?_
  rintro e w' (⟨_, he, own2, hD, hK⟩ | ⟨hz, _⟩)
  · rw [h0] at he
    exact ⟨he, (hL.next hD hK).below⟩
  · rw [h0] at hz; cases hz
theorem lies_turn (hL : LiesJ w wr own J d s cnt kp) (hR : Run s k m r) (hk : k ≤ 1000) (hm : m ≤ 1000000) (i q : Nat) (f : Fil) (hn : getE s.now jn = some i) (hf : s.files[i]? = some f) (hq8 : q < 8 * f.data.length) (zp zb : Int) (hp : zp = ((q / 8 : Nat) : Int)) (hb : zb = ((q % 8 : Nat) : Int)) :
    Calls Try.prog 22 #[.pointer (some ⟨d, 0, none⟩), .string ⟨#[106, 111, 117, 114, 110, 97, 108]⟩, .int .i64 zp, .int .i64 zb] wr (fun e w' => e = .returned (.int .i64 0) ∧ ∃ own2, LiesJ w w' own2 J d (turnE s i q) cnt kp) := by
  subst hp hb
  obtain ⟨bn, bk, loc, hA⟩ := hL.disk
  refine (turn_any hA (good_of hR.inv (hR.bnd.mono hk hm)) hR.live ⟨#[106, 111, 117, 114, 110, 97, 108]⟩ (by unfold maxLen; decide) i q f hn hf hq8 (q / 8) (q % 8) rfl rfl).mono ?_
  rintro e w' ⟨he, own2, hD, hK⟩
  exact ⟨he, own2, hL.next hD (hK.jo J) (hL.jrn.kept hK)⟩
theorem lies_size (hL : LiesJ w wr own J d s cnt kp) (hR : Run s k m r) (hk : k ≤ 1000) (hm : m ≤ 1000000) (b : BS) (hrd : rdE s jn = some b) (z : Int) (hz : ((b.length : Nat) : Int) = z) :
    Calls Try.prog 19 #[.pointer (some ⟨d, 0, none⟩), .string ⟨#[106, 111, 117, 114, 110, 97, 108]⟩] wr (fun e w' => e = .returned (.tuple #[.int .i64 z, .int .i64 0]) ∧ w' = wr) := by
  obtain ⟨i, f, hn, hf, hfd⟩ := now_of_rd hrd
  obtain ⟨bn, bk, loc, hA⟩ := hL.disk
  exact size_any hA (good_of hR.inv (hR.bnd.mono hk hm)) hR.live ⟨#[106, 111, 117, 114, 110, 97, 108]⟩ (by unfold maxLen; decide) i f hn hf z (by rw [hfd]; exact hz)
end
theorem bit_of (x : BitVec 32) (k : Nat) : bits .and .u32 ((x.toNat : Int) / 2 ^ k) 1 = if x.toNat.testBit k then 1 else 0 := by
  have h := and1 (x >>> k)
  rw [half32] at h
  rw [h]
  have e : (x >>> k).getLsbD 0 = x.toNat.testBit k := by rw [BitVec.getLsbD_ushiftRight, ← BitVec.testBit_toNat]; simp
  rw [e]
theorem cat_zero {l : List BS} : (catR 1 l).length = 0 ↔ l.length = 0 := by
  cases l with
  | nil => simp [catR]
  | cons b r =>
    have : (catR 1 (b :: r)).length = (b.length + 20) + (catR 2 r).length := by
      show (recE 1 b ++ catR 2 r).length = _
      rw [List.length_append, rec_len]
    rw [this]; simp
set_option maxHeartbeats 8000000 in
set_option maxRecDepth 40000 in
theorem turned_walk (w : World) (A : Option Addr) (n c : Nat) (L : List BS) (at_ : Int) (x : BitVec 32) (hl : L.length = n) (hr : RdC w A L) (h1 : -9223372036854775808 ≤ at_) (h2 : at_ ≤ 9223372036854775807) :
    Calls Try.prog 4 #[.slice A n c, .int .i64 at_, .int .u32 (x.toNat : Int)] w (Yes w) := by
  have hso := some_any A n c L w hl hr
  obtain ⟨hs1, hs2⟩ := some_short L
  have hnew : ∀ w, _ := fun w => new_any w 1048576 (by omega)
  generalize someE L = l at hso hs1 hs2
  have hN20 : l.length ≤ 20 := hs1
  have HS2 := Lib.hid hs2
  have hshort : short l := fun b hb => by have := hs2 b hb; omega
  have HSH := Lib.hid hshort
  have hle : ∀ k, k ≤ l.length → endE l k ≤ 4400 := fun k hk => by
    have := end_le hs1 hs2 (k := k) (by omega)
    omega
  have HLE := Lib.hid hle
  clear hl hr hs1 hs2 hshort hle
  go_enter Try.func4, Try.ntmps4
  go_wp2_with fail
  refine hso.mono ?_
  rintro e w1 ⟨v1, vals1, rfl, ho1, hv1, hb1⟩
  have hrow : RowV w1 v1 l := rowV_own ho1 hv1
  obtain ⟨A1, c1, rfl, hc1, hc1', hrd⟩ := hrow
  clear ho1 hv1 hso
  go_wp2_with fail
  refine (hnew w1).mono ?_
  rintro e w2 ⟨own0, d, rfl, hd0, hf0, hb0⟩
  clear hnew
  have hL0 : Lies w1 w2 own0 d (newE 1048576) := ⟨hd0, hf0, hb0⟩
  clear hd0 hf0 hb0
  have r0 := run_new 1048576
  have hop := lies_open hL0 r0 (by omega) (by omega) (by omega) [] ch_new.1
  have rO : Run (opnE (newE 1048576)).1 4 0 1048576 := run_opn r0
  have dO := ch_new.2
  go_wp2_with fail
  refine hop.mono ?_
  rintro e w3 ⟨J, v3, own3, rfl, hL3, _, hro3, _⟩
  obtain ⟨A3, c3, rfl, _⟩ := hro3
  clear hop hL0 r0
  have hL3' : LiesJ w1 w3 own3 J d (opnE (newE 1048576)).1 0 0 := hL3
  clear hL3
  generalize (opnE (newE 1048576)).1 = s0 at *
  go_wp2_with fail
  go_loopw [12] (fun i wr => ∃ k : Nat, k ≤ l.length ∧ i = .int .i64 (k : Int) ∧ ∃ own s, LiesJ w1 wr own J d s k 0 ∧ Run s (4 + k) (220 * k) 1048576 ∧ rdE s jn = some (catR 1 (l.take k))) (fun i _ => l.length - (intOf i).toNat)
  case atStart => exact ⟨0, Nat.zero_le _, rfl, own3, s0, hL3', rO, dO⟩
  case round =>
    clear hL3' rO dO
    obtain ⟨k, hk, rfl, own, s, hLk, hRk, hDk⟩ := hrel
    by_cases hlt : k < l.length
    · obtain ⟨ad, Ak, ck, rfl, hck, hrk⟩ := (hrd.below hLk.below).at hlt
      have h200 := HS2.out l[k] (List.getElem_mem hlt)
      have htl : (l.take k).length = k := by rw [List.length_take]; omega
      obtain ⟨z0, z1⟩ := app_rd hRk l[k] hDk (by omega)
      rw [htl] at z0 z1
      have hap := lies_jappend hLk hRk (by omega) (by omega) (by omega) Ak l[k].length ck l[k] rfl hrk (by omega) (by omega) 0 (by rw [z0]; rfl)
      have hR2 := run_d hRk (x := ⟨0, jn, [], recE (k + 1) l[k]⟩) ⟨by show 7 ≤ 40; omega, by show 0 ≤ 40; omega⟩
      have hR3 := hR2.mono (k' := 4 + (k + 1)) (m' := 220 * (k + 1)) (by omega) (by show 220 * k + (recE (k + 1) l[k]).length ≤ _; rw [rec_len]; omega)
      have hcat : l.take k ++ [l[k]] = l.take (k + 1) := (List.take_succ_eq_append_getElem hlt).symm
      rw [hcat] at z1
      rw [z0, if_pos rfl] at hap
      have HR3 := Lib.hid hR3
      have HZ1 := Lib.hid z1
      clear hR2 hR3 z0 z1 hcat hrk hLk hDk hRk htl
      go_wp2_with fail
      refine hap.mono ?_
      rintro e w4 ⟨rfl, own4, hL4, _⟩
      have HL4 := Lib.hid hL4
      clear hap hL4
      go_wp2_with fail
      exact ⟨⟨k + 1, by omega, by go_num, own4, _, HL4.out, HR3.out, HZ1.out⟩, by simp [intOf]; omega⟩
    · have hkN : k = l.length := by omega
      subst hkN
      rw [List.take_length] at hDk
      obtain ⟨y0, y1⟩ := sync_rd hDk
      have hsy := lies_jsync hLk hRk (by omega) (by omega) y0
      have hR5 := run_d hRk (x := ⟨1, jn, [], []⟩) ⟨by show 7 ≤ 40; omega, by show 0 ≤ 40; omega⟩
      have HY1 := Lib.hid y1
      have HR5 := Lib.hid hR5
      clear hLk hRk hDk y0 y1 hR5
      go_wp2_with fail
      refine hsy.mono ?_
      rintro e w5 ⟨rfl, own5, hL5, _⟩
      clear hsy
      obtain ⟨S, hS⟩ : ∃ S, S = (dE s ⟨1, jn, [], []⟩).1 := ⟨_, rfl⟩
      have hR5 : Run S (4 + l.length + 1) (220 * l.length + 0) 1048576 := by rw [hS]; exact HR5.out
      have hD5 : rdE S jn = some (catR 1 l) := by rw [hS]; exact HY1.out
      rw [← hS] at hL5
      clear hS HY1 HR5
      obtain ⟨Q, hQ⟩ : ∃ Q, (catR 1 l).length = Q := ⟨_, rfl⟩
      have hQ4 : Q ≤ 4400 := by rw [← hQ, ← end_all]; exact HLE.out _ (Nat.le_refl _)
      have hsz := lies_size hL5 hR5 (by omega) (by omega) _ hD5 (Q : Int) (by rw [hQ])
      have hQ0 : Q = 0 ↔ l.length = 0 := by rw [← hQ]; exact cat_zero
      have HQ := Lib.hid hQ
      clear hQ
      go_wp2_with fail
      refine hsz.mono ?_
      rintro e w5 ⟨rfl, rfl⟩
      clear hsz
      by_cases hq0 : Q = 0
      · have hl0 := hQ0.1 hq0
        subst hq0
        have e0 : ((l.length : Int) == 0) = true := by rw [hl0]; rfl
        clear hl0 hQ0
        go_wp2_with fail
        refine (jawake_any _).mono ?_
        rintro e w9 ⟨rfl, hb9⟩
        go_wp2_with fail
        go_ret
        exact ⟨rfl, bl_trans (bl_trans hb1 hL5.below) hb9⟩
      · have hl0 : ¬ l.length = 0 := fun h => hq0 (hQ0.2 h)
        have e0 : ((l.length : Int) == 0) = false := by rw [beq_eq_false_iff_ne]; omega
        have e1 : ((Q : Int) == 0) = false := by rw [beq_eq_false_iff_ne]; omega
        by_cases hx0 : x.toNat = 0
        · have e2 : ((x.toNat : Int) == 0) = true := by rw [hx0]; rfl
          clear hx0 hq0 hl0 hQ0
          go_wp2_with fail
          refine (jawake_any _).mono ?_
          rintro e w9 ⟨rfl, hb9⟩
          go_wp2_with fail
          go_ret
          exact ⟨rfl, bl_trans (bl_trans hb1 hL5.below) hb9⟩
        · have e2 : ((x.toNat : Int) == 0) = false := by rw [beq_eq_false_iff_ne]; omega
          have hbr := bring_any at_ (8 * Q) w5 h1 h2 (by omega) (by omega)
          obtain ⟨a, ha⟩ : ∃ a : Nat, (a : Int) = at_ % ((8 * Q : Nat) : Int) := ⟨(at_ % ((8 * Q : Nat) : Int)).toNat, Int.toNat_of_nonneg (Int.emod_nonneg _ (by omega))⟩
          have haQ : a < 8 * Q := by
            have := Int.emod_lt_of_pos at_ (show (0 : Int) < ((8 * Q : Nat) : Int) by omega)
            omega
          have eq1 : (((8 * Q : Nat)) : Int) = 8 * (Q : Int) := by omega
          rw [← ha, eq1] at hbr
          have hw1 : wrap64 (8 * (Q : Int)) = 8 * (Q : Int) := IntWalk.wrap64_in _ ⟨by omega, by omega⟩
          have hX0 := Lib.hid hx0
          clear hx0 hl0 hQ0 ha eq1
          go_wp2_with (go_at_call 21; refine hbr.mono ?_; rintro e w5 ⟨rfl, rfl⟩)
          have hxl : x.toNat < 4294967296 := x.isLt
          go_loopw [17, 18] (fun vt vi wr => ∃ (k t : Nat), k ≤ 32 ∧ t ≤ k ∧ vi = .int .i64 (k : Int) ∧ vt = .int .i64 (t : Int) ∧ ∃ own s z, LiesJ w1 wr own J d s l.length l.length ∧ Run s (4 + l.length + 1) (220 * l.length + 0) 1048576 ∧ rdE s jn = some (xors (catR 1 l) z) ∧ Trn Q a k x.toNat z ∧ (t = 0 → ∀ p, bitAt z p = false) ∧ (t ≠ 0 → ∃ p, bitAt z p = true)) (fun _ vi _ => 32 - (intOf vi).toNat)
          case atStart =>
            have ht0 := trn_start Q a x.toNat
            have hz0 : ∀ c ∈ (List.replicate Q (0 : UInt8)), c = 0 := fun c hc => (List.mem_replicate.1 hc).2
            refine ⟨0, 0, by omega, Nat.le_refl _, rfl, rfl, own5, S, List.replicate Q 0, hL5, hR5, ?_, ht0, fun _ => bits_zero hz0, fun h => absurd rfl h⟩
            rw [xors_zero (by rw [List.length_replicate, HQ.out]) hz0]
            exact hD5
          case round =>
            clear hL5 hR5 hD5
            obtain ⟨k, t, hk, ht, rfl, rfl, own6, s6, z6, hL6, hR6, hD6, hT6, hz6, hn6⟩ := hrel
            by_cases hgo : k < 32 ∧ a + k < 8 * Q
            · obtain ⟨hk32, hak⟩ := hgo
              obtain ⟨q, hq⟩ : ∃ q, a + k = q := ⟨_, rfl⟩
              have eak : (a : Int) + (k : Int) = (q : Int) := by omega
              have hbit := bit_of x k
              have HT6 := Lib.hid hT6
              have HZ6 := Lib.hid hz6
              have HN6 := Lib.hid hn6
              cases hb : x.toNat.testBit k with
              | false =>
                rw [hb] at hbit
                simp only [Bool.false_eq_true, if_false] at hbit
                have hT7 := Lib.hid (trn_none HT6.out hb)
                clear hT6 hz6 hn6 hb
                go_wp2_with fail
                exact ⟨⟨k + 1, t, by omega, by omega, by go_num, rfl, own6, s6, z6, hL6, hR6, hD6, hT7.out, HZ6.out, HN6.out⟩, by simp [intOf]; omega⟩
              | true =>
                rw [hb] at hbit
                simp only [if_true] at hbit
                have hT7' := trn_one HT6.out hak hb
                rw [hq] at hT7'
                have hT7 := Lib.hid hT7'
                clear hT7'
                obtain ⟨i, f, hg, hf, hfd⟩ := now_of_rd hD6
                have hxl6 : (xors (catR 1 l) z6).length = Q := by rw [xors_len2 (by rw [HQ.out, HT6.out.len]), HQ.out]
                have hq8 : q < 8 * f.data.length := by rw [hfd, hxl6]; omega
                have hrd7 := rd_turn hg hD6 q
                rw [flip_xors (by rw [HQ.out, HT6.out.len]) (by rw [HT6.out.len]; omega)] at hrd7
                have hbn : bitAt (flip z6 (a + k)) (a + k) = true := by
                  rw [bit_flip (by rw [HT6.out.len]; exact hak), if_pos rfl, HT6.out.bit]
                  have : ¬ a + k < a + k := by omega
                  simp
                rw [hq] at hbn
                have HBN := Lib.hid hbn
                have HRD7 := Lib.hid hrd7
                have hR7 := Lib.hid (run_turn hR6 i q)
                have hlt := fun zp zb hp hb => lies_turn hL6 hR6 (by omega) (by omega) i q f hg hf hq8 zp zb hp hb
                have HLT := Lib.hid hlt
                clear hT6 hz6 hn6 hb hg hf hfd hrd7 hbn hlt hL6 hR6 hD6
                go_wp2_with fail
                refine (HLT.out _ _ (by omega) (by omega)).mono ?_
                rintro e w7 ⟨rfl, own7, hL7⟩
                have HL7 := Lib.hid hL7
                clear hL7
                go_wp2_with fail
                exact ⟨⟨k + 1, t + 1, by omega, by omega, by go_num, by go_num, own7, turnE s6 i q, flip z6 q, HL7.out, hR7.out, HRD7.out, hT7.out, fun h => by omega, fun _ => ⟨q, HBN.out⟩⟩, by simp [intOf]; omega⟩
            · obtain ⟨q, hq⟩ : ∃ q, a + k = q := ⟨_, rfl⟩
              have eak : (a : Int) + (k : Int) = (q : Int) := by omega
              have hgo2 : (¬ k < 32) ∨ (k < 32 ∧ ¬ q < 8 * Q) := by omega
              have hxz : (catR 1 l).length = z6.length := by rw [HQ.out, hT6.len]
              by_cases ht0 : t = 0
              · subst ht0
                have hzz := bits_none (hz6 rfl)
                have hdat : xors (catR 1 l) z6 = catR 1 l := xors_zero hxz hzz
                rw [hdat] at hD6
                have ho := opn_rd hR6.inv hD6 (recs_cat HSH.out)
                have hop := Lib.hid (lies_open hL6.lies hR6 (by omega) (by omega) (by omega) l ho.1)
                have hrdL := hrd.below hL6.below
                have HB6 := Lib.hid hL6.below
                have HLL := Lib.hid hL6.lies
                clear hgo hz6 hn6 hT6 hzz hdat hD6 hxz ho hL6 hR6
                rcases hgo2 with h | ⟨h, h'⟩
                all_goals
                  go_wp2_with fail
                  refine hop.out.mono ?_
                  rintro e w7 ⟨J7, v7, own7, rfl, hL7, _, hro7, _⟩
                  have hrv := RowV.of hro7
                  obtain ⟨A7, c7, rfl, _, _, hrd7⟩ := hrv
                  have hsame := sameT_any A7 A1 l.length c7 c1 l w7 rfl hrd7 (hrd.below hL7.below) (by omega)
                  clear hro7
                  go_wp2_with fail
                  refine hsame.mono ?_
                  rintro e w8 ⟨rfl, hb8⟩
                  clear hsame
                  go_wp2_with fail
                  refine (jawake_any _).mono ?_
                  rintro e w9 ⟨rfl, hb9⟩
                  go_wp2_with fail
                  go_ret
                  exact ⟨rfl, bl_trans (bl_trans (bl_trans hb1 hL7.below) hb8) hb9⟩
              · obtain ⟨p, hp⟩ := hn6 ht0
                have hnz : ¬ ∀ c ∈ z6, c = 0 := fun h => by rw [bits_zero h p] at hp; cases hp
                have hrec : recsE (xors (catR 1 l) z6) = ([], 0, 70) := by
                  unfold recsE
                  exact recs_turned l HSH.out 1 z6 a _ hxz.symm (trn_burst hT6 hk) hnz (by rw [xors_len2 hxz]; omega)
                have ho := opn_wrong hR6.inv hD6 hrec
                have hop := Lib.hid (lies_wrong hL6.lies hR6 (by omega) (by omega) (by omega) ho)
                have et : ((t : Int) == 0) = false := by rw [beq_eq_false_iff_ne]; omega
                clear hgo hz6 hn6 hT6 hnz hrec hD6 hxz ho hL6 hR6 hp
                rcases hgo2 with h | ⟨h, h'⟩
                all_goals
                  go_wp2_with fail
                  refine hop.out.mono ?_
                  rintro e w7 ⟨rfl, hb7⟩
                  go_wp2_with fail
                  refine (jawake_any _).mono ?_
                  rintro e w9 ⟨rfl, hb9⟩
                  go_wp2_with fail
                  go_ret
                  exact ⟨rfl, bl_trans (bl_trans hb1 hb7) hb9⟩
set_option maxRecDepth 100000 in
theorem JournalTurned_holds : Rows.JournalTurnedSaid :=
  OpenClaim.holds_of_wide 4 Try.f4 rfl rfl rfl rfl rfl rfl rfl ⟨rfl, rfl, rfl, rfl, rfl⟩ rfl rfl rfl rfl rfl (by kernel_rfl) Try.func4 (by kernel_rfl)
    (of_decide_eq_true (by kernel_rfl)) (by unfold Func.isWrapper; first | (rw [if_pos (by decide +kernel)]; kernel_rfl) | (rw [if_neg (by decide +kernel)]; exact ⟨rfl, rfl⟩))
    (fun os started H enc _ => law_lifted (s := Rows.journalTurnedSpec) Try.func4 (by kernel_rfl) rfl
      (fun H ds h => by rw [Try.params4] at h; match ds, h with | [_, _, _], _ => rfl) (by kernel_rfl) (by kernel_rfl)
      os started H enc
      (ChangeSpec.witness6 (enc := enc) (C := Try.checked) false ⟨#[], #[.slice none 0 0, .int .i64 0, .int .u32 0], []⟩ 8 (by kernel_rfl) (by kernel_rfl) (by kernel_rfl) (by kernel_rfl))
      (fun W args ds p h => by
        obtain ⟨⟨base, hok⟩, hA, hl⟩ := h
        rw [Try.params4] at hok hA hl
        obtain ⟨v0, v1, v2, d0, d1, d2, p0, p1, p2, rfl, rfl, rfl, g0, g1, g2⟩ := trodAll_three hA
        obtain ⟨A0, n0, c0, l0, rfl, e0, a0, b0, r0⟩ := open_lists (hok 0 28 v0 rfl rfl) g0
        obtain ⟨n1, rfl, a1, b1⟩ := open_i64 (hok 1 3 v1 rfl rfl) g1
        obtain ⟨n2, rfl⟩ := open_u32 (hok 2 43 v2 rfl rfl) g2
        exact turned_walk W A0 n0 c0 l0 n1 n2 e0 r0 a1 b1))

end Go.Proofs.Ytdgaipdpebinbaa
