/- The document's Pack: a contract over the translated program. -/
import Derived.Test.YtlblcligjelbgaaPackT
set_option linter.unusedVariables false
namespace Go.Proofs.Ytlblcligjelbgaa
open Go.RowKit

theorem refFour_z (n : Nat) (z : Int) (hz : (n : Int) = z) (hn : n < 4294967296) (w : World) : Calls Try.prog 34 #[.int .i64 z] w (GotBytes w (fourN n)) := by
  subst hz
  have h := refFour_any (BitVec.ofNat 32 n) w
  rw [BitVec.toNat_ofNat, Nat.mod_eq_of_lt (by omega)] at h
  exact h
theorem refText_small {A : Option Addr} {n c : Nat} {l : List UInt8} {w : World} (hl : l.length = n) (hr : Rd w A l) (hn : n ≤ 262144) :
    Calls Try.prog 33 #[.slice A n c, .int .i64 262144] w (GotBytesE w (digs n ++ l) 0) := by
  have h := reftext_any A n c 262144 l w hl hr (by omega) (by omega) (by omega)
  unfold textE at h
  rw [if_neg (by omega), if_neg (by omega), hl] at h
  exact h
theorem refText_big {A : Option Addr} {n c : Nat} {l : List UInt8} {w : World} (hl : l.length = n) (hr : Rd w A l) (hn : 262144 < n) (hb : n ≤ 150000000000000) :
    Calls Try.prog 33 #[.slice A n c, .int .i64 262144] w (GotBytesE w [] 5) := by
  have h := reftext_any A n c 262144 l w hl hr (by omega) (by omega) (by omega)
  unfold textE at h
  rw [if_neg (by omega), if_pos (by omega)] at h
  exact h

set_option maxHeartbeats 2000000 in
set_option maxRecDepth 20000 in
theorem refPack_any (kind : Int) (A : Option Addr) (n c : Nat) (ss : List Sec) (w : World) (hl : ss.length = n) (hr : RdS w A ss) (hn : n ≤ maxLen) (hd : ∀ s ∈ ss, s.2.length ≤ 150000000000000) :
    Calls Try.prog 13 #[.int .i64 kind, .slice A n c] w (GotBytesE w (packE kind ss).1 (packE kind ss).2) := by
  unfold maxLen at hn
  have HL := Lib.hid hl
  have HD := Lib.hid hd
  have HP : Hid (packE kind ss = _) := Lib.hid (packE.eq_1 kind ss)
  clear hl hd
  by_cases h0 : kind < 0
  · have hb : decide (kind < 0) = true := by simp [h0]
    rw [if_pos (.inl h0)] at HP
    go_enter Try.func13, Try.ntmps13
    go_wp2_with fail
    go_ret2
    rw [HP.out]
    exact ⟨_, rfl, Own.nil _ _, Below.refl _ _⟩
  have hb0 : decide (kind < 0) = false := by simp; omega
  by_cases h255 : 255 < kind
  · have hb : decide (255 < kind) = true := by simp [h255]
    rw [if_pos (.inr (.inl h255))] at HP
    go_enter Try.func13, Try.ntmps13
    go_wp2_with fail
    go_ret2
    rw [HP.out]
    exact ⟨_, rfl, Own.nil _ _, Below.refl _ _⟩
  have hb255 : decide (255 < kind) = false := by simp; omega
  obtain ⟨m, rfl⟩ := Int.eq_ofNat_of_zero_le (show 0 ≤ kind by omega)
  go_enter Try.func13, Try.ntmps13
  go_wp2_with fail
  go_loopw [6, 7] (fun last i wr => ∃ (k : Nat) (la : Int), k ≤ n ∧ i = .int .i64 (k : Int) ∧ last = .int .i64 la ∧ Hid (riseFrom 0 ss = riseFrom la (ss.drop k)) ∧ Below w.heap.size w wr) (fun _ i _ => n - (intOf i).toNat)
  case atStart => exact ⟨0, 0, Nat.zero_le _, rfl, rfl, rfl, Below.refl _ _⟩
  case round =>
    obtain ⟨k, la, hk, rfl, rfl, HE, hbl⟩ := hrel
    by_cases hlt : k < n
    · have hk' : k < ss.length := by have := HL.out; omega
      obtain ⟨ad, Ak, q, cq, rfl, hc1, hc2, _, _, _, _⟩ := (hr.below hbl).at hk'
      have HRD := Lib.hid (rise_drop hk' la)
      by_cases hx : ss[k].1 ≤ la
      · have hb1 : decide (ss[k].1 ≤ la) = true := by simpa using hx
        go_wp2_with fail
        go_ret2
        have hf : riseFrom 0 ss = false := by rw [HE.out, HRD.out]; simp; omega
        rw [if_pos (.inr (.inr hf))] at HP
        rw [HP.out]
        exact ⟨_, rfl, Own.nil _ _, hbl⟩
      · have hb1 : decide (ss[k].1 ≤ la) = false := by simpa using hx
        by_cases hy : 255 < ss[k].1
        · have hb2 : decide (255 < ss[k].1) = true := by simpa using hy
          go_wp2_with fail
          go_ret2
          have hf : riseFrom 0 ss = false := by rw [HE.out, HRD.out]; simp; omega
          rw [if_pos (.inr (.inr hf))] at HP
          rw [HP.out]
          exact ⟨_, rfl, Own.nil _ _, hbl⟩
        · have hb2 : decide (255 < ss[k].1) = false := by simpa using hy
          go_wp2_with fail
          refine ⟨⟨k + 1, ss[k].1, by omega, by go_num, rfl, ?_, hbl⟩, by simp [intOf]; omega⟩
          unfold Hid
          rw [HE.out, HRD.out]
          have e1 : decide (la < ss[k].1) = true := by simp; omega
          have e2 : decide (ss[k].1 ≤ 255) = true := by simp; omega
          rw [e1, e2]
          rfl
    · have hrise : riseFrom 0 ss = true := by rw [HE.out, List.drop_of_length_le (by have := HL.out; omega)]; rfl
      rw [if_neg (by rw [hrise]; simp; omega), Int.toNat_natCast] at HP
      have hn255 : n ≤ 255 := by have := rise_len (by omega) (by omega) hrise; have := HL.out; omega
      have HR := Lib.hid (rise_mem (by omega) hrise)
      clear hrise HE
      have hkb : Value.int IntKind.u8 (m : Int) = bv (UInt8.ofNat m) := by
        unfold bv
        rw [UInt8.toNat_ofNat']
        congr 1
        omega
      have hO := Own.lit (w := wr) w.heap.size [UInt8.ofNat m] hbl.size (by simp [maxLen])
      have hA : (([UInt8.ofNat m] : List UInt8).map bv).toArray = #[Value.int .u8 (m : Int)] := by rw [hkb]; rfl
      rw [hA] at hO
      clear hA hkb
      have HIN : Hid (innerE m (bodyOf ss) = [73, 80] ++ (fourN (11 + (bodyOf ss).length) ++ ([UInt8.ofNat m] ++ bodyOf ss))) := rfl
      generalize UInt8.ofNat m = kb at *
      go_wp2_with fail
      have hbA := bl_alloc hbl (.cells #[Value.int .u8 (m : Int)] 5)
      go_loopw [8, 9] (fun v i wq => ∃ (j : Nat), j ≤ n ∧ i = .int .i64 (j : Int) ∧ Own wq w.heap.size v (kb :: bodyTo ss j) ∧ (bodyTo ss j).length ≤ j * 262153 ∧ Below w.heap.size w wq) (fun _ i _ => n - (intOf i).toNat)
      case atStart => exact ⟨0, Nat.zero_le _, rfl, hO, by simp [bodyTo, bodyOf], hbA⟩
      case round =>
        clear hO hbA hbl
        obtain ⟨j, hj, rfl, hown, hlen, hbl⟩ := hrel
        by_cases hjn : j < n
        · have hj' : j < ss.length := by have := HL.out; omega
          obtain ⟨ad, Ak, q, cq, rfl, hc1, hc2, HLk, hqc, hcq, hrk⟩ := (hr.below hbl).at hj'
          have hq : q ≤ 150000000000000 := by have := HD.out _ (List.getElem_mem hj'); have := HLk.out; omega
          obtain ⟨ht0, ht1⟩ := HR.out _ (List.getElem_mem hj')
          have HM := Lib.hid (body_more hj')
          have HSL : Hid ((secB ss[j]).length = 1 + ((digs q).length + q)) := Lib.hid <| by have := HLk.out; unfold secB; simp [this]; omega
          have hle := body_le ss (j + 1)
          by_cases hbig : 262144 < q
          · go_wp2_with fail
            refine (refText_big HLk.out hrk hbig hq).mono ?_
            rintro e w2 ⟨v, rfl, _, g2⟩
            go_wp2_with fail
            go_ret2
            rw [HM.out, List.length_append, HSL.out] at hle
            rw [if_pos (by omega)] at HP
            rw [HP.out]
            exact ⟨_, rfl, Own.nil _ _, bl_trans hbl g2⟩
          · have hd8 : (digs q).length ≤ 8 := digs_len8 (by omega)
            go_wp2_with fail
            refine (refText_small HLk.out hrk (by omega)).mono ?_
            rintro e w2 ⟨v, rfl, ho, g2⟩
            obtain ⟨Av, nv, cv, rfl, HLv, _, _, _⟩ := ho.form
            have hown2 := hown.below g2
            have hB2 := bl_trans hbl g2
            have hsz2 := hB2.size
            have hc12 := (g2.cell (World.block_lt_of_cell? _ _ hc1)).trans hc1
            have hap := own_apart hown ho
            have hap2 : (Value.slice Av nv cv).ownBlock = none ∨ (Value.slice Av nv cv).ownBlock ≠ u8.ownBlock := own_apart' hown ho (Nat.le_refl _)
            have hbnd : (kb :: bodyTo ss j).length + 1 ≤ 100000000 := by simp; omega
            have HBN := Lib.hid hbnd
            clear hc1 hc2 hbnd hap
            go_wp2_with (at_builtin; refine wpList_append_bytes _ rfl _ _ rfl w.heap.size _ (kb :: bodyTo ss j) rfl (hown2.alloc _) _ 1 1 [tagB ss[j].1] rfl rfl (Rd.one _ _ _ (by unfold bv; rw [tagB_nat (by omega) (by omega)])) (by have := HBN.out; simp at this ⊢; omega) (by simp; omega) ?_)
            intro v1 w3 ho3 hg3 _
            have hot := (ho.alloc _).kept hg3 hap2
            have hB3 : Below w.heap.size w w3 := bl_grown (bl_alloc hB2 _) hg3 (fun k hk => (hown2.lt k hk).1)
            have hsz3 := hB3.size
            have hrd3 : Rd w3 Av (digs q ++ ss[j].2) := hot.rd
            have HB3 : Hid ((kb :: bodyTo ss j ++ [tagB ss[j].1]).length + (digs q ++ ss[j].2).length ≤ 200000000000000) := Lib.hid (by have := HLk.out; have := HBN.out; simp at this ⊢; omega)
            go_wp2_with (at_builtin; refine wpList_append_bytes _ rfl _ _ rfl w.heap.size _ (kb :: bodyTo ss j ++ [tagB ss[j].1]) rfl ho3 Av nv cv (digs q ++ ss[j].2) rfl HLv.out hrd3 HB3.out hsz3 ?_)
            intro v2 w4 ho4 hg4 _
            have hB4 : Below w.heap.size w w4 := bl_grown hB3 hg4 (fun k hk => (ho3.lt k hk).1)
            have hbody : kb :: bodyTo ss j ++ [tagB ss[j].1] ++ (digs q ++ ss[j].2) = kb :: bodyTo ss (j + 1) := by
              rw [HM.out]
              unfold secB
              rw [HLk.out]
              simp
            have ho5 : Own w4 w.heap.size v2 (kb :: bodyTo ss (j + 1)) := hbody ▸ (by simpa using ho4)
            go_wp2_with fail
            refine ⟨⟨j + 1, by omega, by go_num, ho5, ?_, hB4⟩, by simp [intOf]; omega⟩
            rw [HM.out, List.length_append, HSL.out]
            omega
        · rw [body_all (by have := HL.out; omega)] at hown hlen
          obtain ⟨Ab, nb, cb, rfl, HLb, _, _, hrb⟩ := hown.form
          have hnb : Hid (nb = 1 + (bodyOf ss).length) := by have := HLb.out; simp at this; unfold Hid; omega
          have hnl : nb ≤ 100000000 := by have := hnb.out; omega
          by_cases hover : 262144 < 6 + nb + 4
          · have hb1 : decide ((262144 : Int) < 6 + (nb : Int) + 4) = true := by simp; omega
            go_wp2_with fail
            go_ret2
            rw [if_pos (by have := hnb.out; omega)] at HP
            rw [HP.out]
            exact ⟨_, rfl, Own.nil _ _, hbl⟩
          · have hb1 : decide ((262144 : Int) < 6 + (nb : Int) + 4) = false := by simp; omega
            rw [if_neg (by have := hnb.out; omega)] at HP
            have hin : Hid (73 :: 80 :: (fourN (10 + nb) ++ kb :: bodyOf ss) = innerE m (bodyOf ss)) := by
              unfold Hid
              rw [HIN.out, show 11 + (bodyOf ss).length = 10 + nb by have := hnb.out; omega]
              simp
            have hO2 := Own.lit (w := wr) wr.heap.size [73, 80] (Nat.le_refl _) (by simp [maxLen])
            have hszq := hbl.size
            clear hlen HIN hnb
            go_wp2_with fail
            refine (refFour_z (10 + nb) _ (by omega) (by omega) _).mono ?_
            rintro e w5 ⟨v5, rfl, ho5, g5⟩
            obtain ⟨A5, n5, c5, rfl, HL5, _, _, hr5⟩ := ho5.form
            have hap := own_apart hown hO2
            have hown5 := (hown.alloc _).below g5
            have hO5 := (hO2.below g5).more hszq
            have hB5 := bl_trans (bl_alloc hbl _) g5
            have hsz5 := hB5.size
            have hn5 : n5 ≤ 4 := by have := HL5.out; rw [fourN_len] at this; omega
            clear ho5 g5 hown hbl
            go_wp2_with (at_builtin; refine wpList_append_bytes _ rfl _ _ rfl w.heap.size _ [73, 80] rfl hO5 A5 n5 c5 (fourN (10 + nb)) rfl HL5.out hr5 (by simp [fourN_len]) hsz5 ?_)
            intro v6 w6 ho6 hg6 _
            have hown6 := hown5.kept hg6 hap
            have hrb6 : Rd w6 Ab (kb :: bodyOf ss) := hown6.rd
            have hB6 : Below w.heap.size w w6 := bl_grown hB5 hg6 (fun k hk => (hO5.lt k hk).1)
            have hsz6 := hB6.size
            have ho6' : Own w6 w.heap.size v6 (73 :: 80 :: fourN (10 + nb)) := by simpa using ho6
            have HB6 : Hid ((73 :: 80 :: fourN (10 + nb)).length + (kb :: bodyOf ss).length ≤ 200000000000000) := Lib.hid (by have := HLb.out; simp [fourN_len] at this ⊢; omega)
            clear ho6
            go_wp2_with (at_builtin; refine wpList_append_bytes _ rfl _ _ rfl w.heap.size _ (73 :: 80 :: fourN (10 + nb)) rfl ho6' Ab nb cb (kb :: bodyOf ss) rfl HLb.out hrb6 HB6.out hsz6 ?_)
            intro v7 w7 ho7 hg7 _
            have hB7 : Below w.heap.size w w7 := bl_grown hB6 hg7 (fun k hk => (ho6'.lt k hk).1)
            have ho7' : Own w7 w.heap.size v7 (innerE m (bodyOf ss)) := by rw [← hin.out]; simpa using ho7
            obtain ⟨A7, n7, c7, rfl, HL7, _, _, hr7⟩ := ho7'.form
            have hn7 : n7 ≤ 262144 := by have := HL7.out; rw [inner_len] at this; have := HLb.out; simp at this; omega
            have hsz7 := hB7.size
            clear ho7 hg7 hg6 hown6 hown5 hO5 hB6 hB5 hr5 hap hO2 hin
            go_wp2_with fail
            refine (refOf_any A7 n7 c7 _ _ HL7.out hr7 (by simp only [maxLen]; omega)).mono ?_
            rintro e w8 ⟨rfl, rfl⟩
            have HSE : Hid (sealE (innerE m (bodyOf ss)) = innerE m (bodyOf ss) ++ fourE (ofE (innerE m (bodyOf ss)))) := rfl
            generalize innerE m (bodyOf ss) = inn at *
            generalize ofE inn = x at *
            have hxl := x.isLt
            have hwx : IntKind.i64.wrap (x.toNat : Int) = (x.toNat : Int) := by rw [IntKind.wrap_i64]; omega
            have hwx' : wrap64 (x.toNat : Int) = (x.toNat : Int) := IntWalk.wrap64_in _ ⟨by omega, by omega⟩
            go_wp2_with fail
            refine (refFour_any x _).mono ?_
            rintro e w9 ⟨v9, rfl, ho9, g9⟩
            obtain ⟨A9, n9, c9, rfl, HL9, _, _, hr9⟩ := ho9.form
            have ho79 := ho7'.below g9
            have hB9 := bl_trans hB7 g9
            have hsz9 := hB9.size
            go_wp2_with (at_builtin; refine wpList_append_bytes _ rfl _ _ rfl w.heap.size _ inn rfl ho79 A9 n9 c9 (fourE x) rfl HL9.out hr9 (by have := HL7.out; rw [fourE_len]; omega) hsz9 ?_)
            intro vA wA hoA hgA _
            go_wp2_with fail
            go_ret2
            rw [HP.out, HSE.out]
            exact ⟨_, rfl, hoA, bl_grown hB9 hgA (fun k hk => (ho79.lt k hk).1)⟩

end Go.Proofs.Ytlblcligjelbgaa
