/- The law on Check, Close and Step: the walk. -/
import Derived.Test.YtjibfffefppniaaGreatRsBM
set_option linter.unusedVariables false
set_option linter.unusedSimpArgs false
namespace Go.Proofs.YtjibfffefppniaaGreat
open Go.RowKit
attribute [local go_sem] Oper.semAt_some

theorem zl_size (l : List Nat) : (zl l).length = l.length := by unfold zl; rw [List.length_map]
theorem rise_len (S : Nat) (l : List Nat) : (riseE S l).length ≤ S := len_le ((rise_pair S l).imp (fun h => by omega)) (rise_in S l)
theorem ask_len {S : Int} {E : List Ed} {X xs : List Int} {f : Nat → List Nat → List Nat} (hf : ∀ s l, (f s l).length ≤ s) : (askE S E X xs f).1.length ≤ 2048 := by
  unfold askE
  split
  · simp
  · rename_i h
    split
    · simp
    · obtain ⟨s, rfl, s1, s2, _⟩ := check_ok (Classical.byContradiction fun h2 => h h2)
      have := hf ((s : Int)).toNat (natsL xs)
      dsimp only
      omega
theorem eq_true {P : Prop} [Decidable P] {f : FuncId} {args : Array Value} {w : World} (h : Calls Tryz.prog f args w (GotBl w (decide P))) (hp : P) : Calls Tryz.prog f args w (GotBl w true) := by
  rwa [decide_eq_true hp] at h
set_option maxRecDepth 100000 in
set_option maxHeartbeats 32000000 in
theorem steps_walk (S : Int) (A A2 A3 : Option Addr) (n c n2 c2 na ca ch : Nat) (hch : ch < 256) (E : List Ed) (X la : List Int) (W : World) (he : E.length = n ∧ n ≤ c ∧ c * 56 ≤ 140737488351232 ∧ RdE W A E) (hx : X.length = n2 ∧ n2 ≤ c2 ∧ c2 * 8 ≤ 140737488351232 ∧ RdW W A2 X)
    (ha : la.length = na) (hac : na ≤ ca) (hca : ca * 8 ≤ 140737488351232) (ra : RdW W A3 la) :
    Calls Tryz.prog 4 #[.agg #[.int .i64 S, .slice A n c, .slice A2 n2 c2], .slice A3 na ca, .int .u8 (ch : Int)] W (Yes W) := by
  generalize hQ : Yes W = Q
  have HQ := Lib.hid hQ
  have b0 := bl_alloc (Below.refl W.heap.size W) (.cells #[.int .i64 S, .slice A n c, .slice A2 n2 c2] 29)
  obtain ⟨he1, he2, he3, he4⟩ := he
  obtain ⟨hx1, hx2, hx3, hx4⟩ := hx
  have N0 := Lib.hid (show NetB W W.heap.size S E X A A2 n c n2 c2 (W.alloc (.cells #[.int .i64 S, .slice A n c, .slice A2 n2 c2] 29)) from ⟨heap_alloc_new W _, he4.below b0, hx4.below b0, b0, he1, hx1, he2, hx2, by omega, by omega⟩)
  have A0 := Lib.hid (ra.below b0)
  have HA := Lib.hid ha
  have hn56 : n * 56 ≤ 140737488355328 := by omega
  have hn8 : n2 * 8 ≤ 140737488355328 := by omega
  clear hQ b0 he1 he4 hx1 hx4 ra ha
  go_enter Tryz.func4, Tryz.ntmps4
  go_upto_region 1 with fail
  generalize W.alloc (.cells #[.int .i64 S, .slice A n c, .slice A2 n2 c2] 29) = w0 at *
  generalize W.heap.size = g at *
  have L0 := Lib.hid N0.out.load
  have HC := Lib.hid (rcopy_any S E X A A2 n c n2 c2 N0.out.ln N0.out.lx hn56 hn8 w0 N0.out.re N0.out.rx)
  go_wp2_with (refine wpList_load_part 29 3 _ rfl rfl ⟨g, 0, none⟩ rfl [.int .i64 S, .slice A n c, .slice A2 n2 c2] (agg_net _) (sz_net _) rfl L0.out ?_)
  refine HC.out.mono ?_
  rintro e w1 ⟨Ai, ni, ci, Bi, mi, di, rfl, p1, p2, p3, p4, p5, p6, hb⟩
  have N1 := Lib.hid (N0.out.then hb)
  have A1 := Lib.hid (A0.out.below hb)
  have P1 := Lib.hid p1
  have P2 := Lib.hid p2
  have hni : ni ≤ 140737488355328 := by have h1 := p3.out; have h2 := N0.out.ln; have h3 := N0.out.bn; omega
  have hmi : mi ≤ 140737488355328 := by have h1 := p4.out; have h2 := N0.out.lx; have h3 := N0.out.bx; omega
  have hen : n = ni := by rw [← p3.out]; exact N0.out.ln.symm
  have hem : n2 = mi := by rw [← p4.out]; exact N0.out.lx.symm
  subst hen hem
  clear p1 p2 hb HC L0 N0 A0
  have HC := Lib.hid (copyints_any la A3 na ca HA.out (by omega) w1 A1.out)
  go_wp2_with fail
  refine HC.out.mono ?_
  rintro e w2 ⟨Af, nf, cf, rfl, hlf, hcf, hrf, hb⟩
  have bx := bl_alloc (Below.refl w2.heap.size w2) (.cells #[.int .i64 S, .slice Ai n ci, .slice Bi n2 di] 29)
  have N2 := Lib.hid ((N1.out.then hb).then bx)
  have I2 := Lib.hid (show NetB W w2.heap.size S E X Ai Bi n ci n2 di (w2.alloc (.cells #[.int .i64 S, .slice Ai n ci, .slice Bi n2 di] 29)) from ⟨heap_alloc_new w2 _, (P1.out.below hb).below bx, (P2.out.below hb).below bx, bl_trans (bl_trans N1.out.low hb) bx, p3.out, p4.out, p5, p6, hni, hmi⟩)
  have A2' := Lib.hid ((A1.out.below hb).below bx)
  have F2 := Lib.hid (hrf.below bx)
  clear hb bx hrf HC N1 A1 P1 P2
  go_upto_region 2 with fail
  generalize w2.alloc (.cells #[.int .i64 S, .slice Ai n ci, .slice Bi n2 di] 29) = w3 at *
  generalize w2.heap.size = gi at *
  have R1 := Lib.hid (ask_len (S := S) (E := E) (X := X) (xs := la) (f := fun S ys => closeL S E ys) (fun s l => rise_len s _))
  have R2 := Lib.hid (ask_len (S := S) (E := E) (X := X) (xs := la) (f := fun S ys => stepL S E ch ys) (fun s l => rise_len s _))
  have hnf : nf ≤ 140737488355328 := by have h1 := hlf.out; have h2 := HA.out; omega
  have HC1 := Lib.hid (fun w (h : NetB W gi S E X Ai Bi n ci n2 di w) (hf : RdW w Af la) => h.close la Af nf cf hlf.out hnf hf)
  have HC2 := Lib.hid (fun w (h : NetB W g S E X A A2 n c n2 c2 w) (hf : RdW w A3 la) => rclose_any S E X la A A2 A3 n c n2 c2 na ca h.ln h.lx HA.out h.cn h.cx h.bn h.bx (by omega) w h.re h.rx hf)
  have HC3 := Lib.hid (fun w (h : NetB W gi S E X Ai Bi n ci n2 di w) (hf : RdW w Af la) => h.step ch hch la Af nf cf hlf.out hnf hf)
  have HC4 := Lib.hid (fun w (h : NetB W g S E X A A2 n c n2 c2 w) (hf : RdW w A3 la) => rstep_any ch hch S E X la A A2 A3 n c n2 c2 na ca h.ln h.lx HA.out h.cn h.cx h.bn h.bx (by omega) w h.re h.rx hf)
  generalize askE S E X la (fun S ys => closeL S E ys) = r1 at *
  generalize askE S E X la (fun S ys => stepL S E ch ys) = r2 at *
  obtain ⟨l1, k1⟩ := r1
  obtain ⟨l2, k2⟩ := r2
  dsimp only at R1 R2
  have N3 := N2
  have I3 := I2
  have Q3 := A2'
  have F3 := F2
  clear N2 I2 A2' F2
  have LL := Lib.hid I3.out.load
  have HD := Lib.hid (HC1.out _ I3.out F3.out)
  go_wp2_with (refine wpList_load_part 29 3 _ rfl rfl ⟨gi, 0, none⟩ rfl [.int .i64 S, .slice Ai n ci, .slice Bi n2 di] (agg_net _) (sz_net _) rfl LL.out ?_)
  refine HD.out.mono ?_
  rintro e w4 ⟨v, rfl, ho, hb⟩
  obtain ⟨B1, m1, d1, rfl, hl1, _, _, hz⟩ := ho.form
  have Z1 := Lib.hid (rdw_z hz)
  have N4 := Lib.hid (N3.out.then hb)
  have I4 := Lib.hid (I3.out.then hb)
  have Q4 := Lib.hid (Q3.out.below hb)
  have F4 := Lib.hid (F3.out.below hb)
  clear ho hb hz HD LL N3 I3 Q3 F3
  dsimp only
  have LL := Lib.hid N4.out.load
  have HD := Lib.hid (HC2.out _ N4.out Q4.out)
  go_wp2_with (refine wpList_load_part 29 3 _ rfl rfl ⟨g, 0, none⟩ rfl [.int .i64 S, .slice A n c, .slice A2 n2 c2] (agg_net _) (sz_net _) rfl LL.out ?_)
  refine HD.out.mono ?_
  rintro e w5 ⟨v, rfl, ho, hb⟩
  obtain ⟨B2, m2, d2, rfl, hl2, _, _, hz⟩ := ho.form
  have Z2 := Lib.hid (rdw_z hz)
  have N5 := Lib.hid (N4.out.then hb)
  have I5 := Lib.hid (I4.out.then hb)
  have Q5 := Lib.hid (Q4.out.below hb)
  have F5 := Lib.hid (F4.out.below hb)
  have Y15 := Lib.hid (Z1.out.below hb)
  clear ho hb hz HD LL N4 I4 Q4 F4 Z1
  dsimp only
  have LL := Lib.hid I5.out.load
  have HD := Lib.hid (HC3.out _ I5.out F5.out)
  go_wp2_with (refine wpList_load_part 29 3 _ rfl rfl ⟨gi, 0, none⟩ rfl [.int .i64 S, .slice Ai n ci, .slice Bi n2 di] (agg_net _) (sz_net _) rfl LL.out ?_)
  refine HD.out.mono ?_
  rintro e w6 ⟨v, rfl, ho, hb⟩
  obtain ⟨B3, m3, d3, rfl, hl3, _, _, hz⟩ := ho.form
  have Z3 := Lib.hid (rdw_z hz)
  have N6 := Lib.hid (N5.out.then hb)
  have I6 := Lib.hid (I5.out.then hb)
  have Q6 := Lib.hid (Q5.out.below hb)
  have F6 := Lib.hid (F5.out.below hb)
  have Y16 := Lib.hid (Y15.out.below hb)
  have Y26 := Lib.hid (Z2.out.below hb)
  clear ho hb hz HD LL N5 I5 Q5 F5 Y15 Z2
  dsimp only
  have LL := Lib.hid N6.out.load
  have HD := Lib.hid (HC4.out _ N6.out Q6.out)
  go_wp2_with (refine wpList_load_part 29 3 _ rfl rfl ⟨g, 0, none⟩ rfl [.int .i64 S, .slice A n c, .slice A2 n2 c2] (agg_net _) (sz_net _) rfl LL.out ?_)
  refine HD.out.mono ?_
  rintro e w7 ⟨v, rfl, ho, hb⟩
  obtain ⟨B4, m4, d4, rfl, hl4, _, _, hz⟩ := ho.form
  have Z4 := Lib.hid (rdw_z hz)
  have N7 := Lib.hid (N6.out.then hb)
  have I7 := Lib.hid (I6.out.then hb)
  have Q7 := Lib.hid (Q6.out.below hb)
  have F7 := Lib.hid (F6.out.below hb)
  have Y17 := Lib.hid (Y16.out.below hb)
  have Y27 := Lib.hid (Y26.out.below hb)
  have Y37 := Lib.hid (Z3.out.below hb)
  clear ho hb hz HD LL N6 I6 Q6 F6 Y16 Y26 Z3
  dsimp only
  have V1 := Lib.hid Y17.out
  have V2 := Lib.hid Y27.out
  have V3 := Lib.hid Y37.out
  have V4 := Lib.hid Z4.out
  clear Y17 Y27 Y37 Z4 HC1 HC2 HC3 HC4
  have u1 : ((k1 : Int) == (k1 : Int)) = true := by simp
  have u2 : ((k2 : Int) == (k2 : Int)) = true := by simp
  obtain ⟨kc, hkc⟩ : ∃ k, checkN S E X = k := ⟨_, rfl⟩
  have u3 : ((kc : Int) == (kc : Int)) = true := by simp
  have HKC := Lib.hid hkc
  clear hkc
  have h1 : m1 ≤ 2048 := by have := R1.out; have := hl1.out; dsimp only at *; omega
  have h2 : m2 ≤ 2048 := by have := R1.out; have := hl2.out; dsimp only at *; omega
  have h3 : m3 ≤ 2048 := by have := R2.out; have := hl3.out; dsimp only at *; omega
  have h4 : m4 ≤ 2048 := by have := R2.out; have := hl4.out; dsimp only at *; omega
  go_wp2_with fail
  refine wp_region_held_drew (S := fun W' => W'.heap[g]? = some (.cells #[.int .i64 S, .slice A n c, .slice A2 n2 c2] 29 (0, 0)) ∧ W'.heap[gi]? = some (.cells #[.int .i64 S, .slice Ai n ci, .slice Bi n2 di] 29 (0, 0))) (by kernel_rfl) ⟨N7.out.net, I7.out.net⟩ (fun hHeld => ?_)
  have hd := Below.drew (Below.refl w7.heap.size w7)
  have N8 := Lib.hid (N7.out.then hd)
  have I8 := Lib.hid (I7.out.then hd)
  have Q8 := Lib.hid (Q7.out.below hd)
  have F8 := Lib.hid (F7.out.below hd)
  have V18 := Lib.hid (V1.out.below hd)
  have V28 := Lib.hid (V2.out.below hd)
  have V38 := Lib.hid (V3.out.below hd)
  have V48 := Lib.hid (V4.out.below hd)
  clear hd N7 I7 Q7 F7 V1 V2 V3 V4
  generalize w7.drew = w8 at *
  try simp only [List.getElem_toArray, List.getElem_cons_zero, List.getElem_cons_succ, Act.put, List.setIfInBounds_toArray, List.set_cons_zero, List.set_cons_succ]
  refine wpAnyH_take (i := 0) (v := .agg #[.int .i64 S, .slice Ai n ci, .slice Bi n2 di]) rfl (by kernel_rfl) (by kernel_rfl) (by kernel_rfl) (fun _ _ _ h => h) (yields_part 29 3 (by rfl) (.tmp 7) rfl ⟨gi, 0, none⟩ rfl [.int .i64 S, .slice Ai n ci, .slice Bi n2 di] agg_net sz_net rfl (fun w hw => load_net w hw.2)) hHeld ?_
  try simp only [List.getElem_toArray, List.getElem_cons_zero, List.getElem_cons_succ, Act.put, List.setIfInBounds_toArray, List.set_cons_zero, List.set_cons_succ]
  refine wpAnyH_take (i := 2) (v := .agg #[.int .i64 S, .slice A n c, .slice A2 n2 c2]) rfl (by kernel_rfl) (by kernel_rfl) (by kernel_rfl) (fun _ _ _ h => h) (yields_part 29 3 (by rfl) (.tmp 3) rfl ⟨g, 0, none⟩ rfl [.int .i64 S, .slice A n c, .slice A2 n2 c2] agg_net sz_net rfl (fun w hw => load_net w hw.1)) hHeld ?_
  try simp only [List.getElem_toArray, List.getElem_cons_zero, List.getElem_cons_succ, Act.put, List.setIfInBounds_toArray, List.set_cons_zero, List.set_cons_succ]
  have hck := I8.out.check
  rw [HKC.out] at hck
  have HCK := Lib.hid hck
  clear hck
  refine wpAnyH_ready (rs := [1]) (by kernel_rfl) (by simp) (AllReadyH.cons rfl (fun K hK => ?_) AllReadyH.nil)
  go_simp
  go_at_call 8
  refine (HCK.out).mono ?_
  rintro e w9 ⟨rfl, hb⟩
  have N9 := Lib.hid (N8.out.then hb)
  have I9 := Lib.hid (I8.out.then hb)
  have Q9 := Lib.hid (Q8.out.below hb)
  have F9 := Lib.hid (F8.out.below hb)
  have V19 := Lib.hid (V18.out.below hb)
  have V29 := Lib.hid (V28.out.below hb)
  have V39 := Lib.hid (V38.out.below hb)
  have V49 := Lib.hid (V48.out.below hb)
  have hS1 := And.intro N9.out.net I9.out.net
  clear hHeld hb N8 I8 Q8 F8 V18 V28 V38 V48
  go_wp2_with fail
  refine hK.out _ _ hS1 (fun hHeld => ?_)
  clear hK K hS1
  try simp only [List.getElem_toArray, List.getElem_cons_zero, List.getElem_cons_succ, Act.put, List.setIfInBounds_toArray, List.set_cons_zero, List.set_cons_succ]
  clear HCK
  have hck := rcheck_any S E X A A2 n c n2 c2 N9.out.ln N9.out.lx N9.out.bn N9.out.bx w9 N9.out.re N9.out.rx
  rw [HKC.out] at hck
  have HCK := Lib.hid hck
  clear hck
  refine wpAnyH_ready (rs := [3]) (by kernel_rfl) (by simp) (AllReadyH.cons rfl (fun K hK => ?_) AllReadyH.nil)
  go_simp
  go_at_call 9
  refine (HCK.out).mono ?_
  rintro e w10 ⟨rfl, hb⟩
  have N10 := Lib.hid (N9.out.then hb)
  have I10 := Lib.hid (I9.out.then hb)
  have Q10 := Lib.hid (Q9.out.below hb)
  have F10 := Lib.hid (F9.out.below hb)
  have V110 := Lib.hid (V19.out.below hb)
  have V210 := Lib.hid (V29.out.below hb)
  have V310 := Lib.hid (V39.out.below hb)
  have V410 := Lib.hid (V49.out.below hb)
  have hS1 := And.intro N10.out.net I10.out.net
  clear hHeld hb N9 I9 Q9 F9 V19 V29 V39 V49
  go_wp2_with fail
  refine hK.out _ _ hS1 (fun hHeld => ?_)
  clear hK K hS1
  try simp only [List.getElem_toArray, List.getElem_cons_zero, List.getElem_cons_succ, Act.put, List.setIfInBounds_toArray, List.set_cons_zero, List.set_cons_succ]
  refine wpAnyH_take (i := 4) (v := ?vzs4) rfl (by kernel_rfl) (by kernel_rfl) (by kernel_rfl) (fun _ _ _ h => h) (Or.inl ⟨by rfl, ?yzs4⟩) hHeld ?rzs4
  case yzs4 => (intro wS hSw; clear hSw; go_simp; try (with_reducible rfl))
  try simp only [List.getElem_toArray, List.getElem_cons_zero, List.getElem_cons_succ, Act.put, List.setIfInBounds_toArray, List.set_cons_zero, List.set_cons_succ]
  refine wpAnyH_take (i := 5) (v := ?vzs5) rfl (by kernel_rfl) (by kernel_rfl) (by kernel_rfl) (fun _ _ _ h => h) (Or.inl ⟨by rfl, ?yzs5⟩) hHeld ?rzs5
  case yzs5 => (intro wS hSw; clear hSw; go_simp; try (with_reducible rfl))
  try simp only [List.getElem_toArray, List.getElem_cons_zero, List.getElem_cons_succ, Act.put, List.setIfInBounds_toArray, List.set_cons_zero, List.set_cons_succ]
  refine wpAnyH_take (i := 6) (v := ?vzs6) rfl (by kernel_rfl) (by kernel_rfl) (by kernel_rfl) (fun _ _ _ h => h) (Or.inl ⟨by rfl, ?yzs6⟩) hHeld ?rzs6
  case yzs6 => (intro wS hSw; clear hSw; go_simp; try (with_reducible rfl))
  try simp only [List.getElem_toArray, List.getElem_cons_zero, List.getElem_cons_succ, Act.put, List.setIfInBounds_toArray, List.set_cons_zero, List.set_cons_succ]
  refine wpAnyH_take (i := 7) (v := ?vzs7) rfl (by kernel_rfl) (by kernel_rfl) (by kernel_rfl) (fun _ _ _ h => h) (Or.inl ⟨by rfl, ?yzs7⟩) hHeld ?rzs7
  case yzs7 => (intro wS hSw; clear hSw; go_simp; try (with_reducible rfl))
  try simp only [List.getElem_toArray, List.getElem_cons_zero, List.getElem_cons_succ, Act.put, List.setIfInBounds_toArray, List.set_cons_zero, List.set_cons_succ]
  refine wpAnyH_ready (rs := [8]) (by kernel_rfl) (by simp) (AllReadyH.cons rfl (fun K hK => ?_) AllReadyH.nil)
  go_simp
  go_at_call 18
  refine (eq_true (eqInts_any B1 B2 m1 d1 m2 d2 (zl l1) (zl l1) w10 (by rw [zl_size]; exact hl1.out) (by rw [zl_size]; exact hl2.out) V110.out V210.out (by omega) (by omega)) rfl).mono ?_
  rintro e w11 ⟨rfl, hb⟩
  have N11 := Lib.hid (N10.out.then hb)
  have I11 := Lib.hid (I10.out.then hb)
  have Q11 := Lib.hid (Q10.out.below hb)
  have F11 := Lib.hid (F10.out.below hb)
  have V111 := Lib.hid (V110.out.below hb)
  have V211 := Lib.hid (V210.out.below hb)
  have V311 := Lib.hid (V310.out.below hb)
  have V411 := Lib.hid (V410.out.below hb)
  have hS1 := And.intro N11.out.net I11.out.net
  clear hHeld hb N10 I10 Q10 F10 V110 V210 V310 V410
  go_wp2_with fail
  refine hK.out _ _ hS1 (fun hHeld => ?_)
  clear hK K hS1
  try simp only [List.getElem_toArray, List.getElem_cons_zero, List.getElem_cons_succ, Act.put, List.setIfInBounds_toArray, List.set_cons_zero, List.set_cons_succ]
  refine wpAnyH_take (i := 9) (v := ?vzs9) rfl (by kernel_rfl) (by kernel_rfl) (by kernel_rfl) (fun _ _ _ h => h) (Or.inl ⟨by rfl, ?yzs9⟩) hHeld ?rzs9
  case yzs9 => (intro wS hSw; clear hSw; go_simp; try (with_reducible rfl))
  try simp only [List.getElem_toArray, List.getElem_cons_zero, List.getElem_cons_succ, Act.put, List.setIfInBounds_toArray, List.set_cons_zero, List.set_cons_succ]
  refine wpAnyH_take (i := 10) (v := ?vzs10) rfl (by kernel_rfl) (by kernel_rfl) (by kernel_rfl) (fun _ _ _ h => h) (Or.inl ⟨by rfl, ?yzs10⟩) hHeld ?rzs10
  case yzs10 => (intro wS hSw; clear hSw; go_simp; try (with_reducible rfl))
  try simp only [List.getElem_toArray, List.getElem_cons_zero, List.getElem_cons_succ, Act.put, List.setIfInBounds_toArray, List.set_cons_zero, List.set_cons_succ]
  refine wpAnyH_take (i := 11) (v := ?vzs11) rfl (by kernel_rfl) (by kernel_rfl) (by kernel_rfl) (fun _ _ _ h => h) (Or.inl ⟨by rfl, ?yzs11⟩) hHeld ?rzs11
  case yzs11 => (intro wS hSw; clear hSw; go_simp; try (with_reducible rfl))
  try simp only [List.getElem_toArray, List.getElem_cons_zero, List.getElem_cons_succ, Act.put, List.setIfInBounds_toArray, List.set_cons_zero, List.set_cons_succ]
  refine wpAnyH_take (i := 12) (v := ?vzs12) rfl (by kernel_rfl) (by kernel_rfl) (by kernel_rfl) (fun _ _ _ h => h) (Or.inl ⟨by rfl, ?yzs12⟩) hHeld ?rzs12
  case yzs12 => (intro wS hSw; clear hSw; go_simp; try (with_reducible rfl))
  try simp only [List.getElem_toArray, List.getElem_cons_zero, List.getElem_cons_succ, Act.put, List.setIfInBounds_toArray, List.set_cons_zero, List.set_cons_succ]
  refine wpAnyH_take (i := 13) (v := ?vzs13) rfl (by kernel_rfl) (by kernel_rfl) (by kernel_rfl) (fun _ _ _ h => h) (Or.inl ⟨by rfl, ?yzs13⟩) hHeld ?rzs13
  case yzs13 => (intro wS hSw; clear hSw; go_simp; try (with_reducible rfl))
  try simp only [List.getElem_toArray, List.getElem_cons_zero, List.getElem_cons_succ, Act.put, List.setIfInBounds_toArray, List.set_cons_zero, List.set_cons_succ]
  refine wpAnyH_take (i := 14) (v := ?vzs14) rfl (by kernel_rfl) (by kernel_rfl) (by kernel_rfl) (fun _ _ _ h => h) (Or.inl ⟨by rfl, ?yzs14⟩) hHeld ?rzs14
  case yzs14 => (intro wS hSw; clear hSw; go_simp; try (with_reducible rfl))
  try simp only [List.getElem_toArray, List.getElem_cons_zero, List.getElem_cons_succ, Act.put, List.setIfInBounds_toArray, List.set_cons_zero, List.set_cons_succ]
  refine wpAnyH_take (i := 15) (v := ?vzs15) rfl (by kernel_rfl) (by kernel_rfl) (by kernel_rfl) (fun _ _ _ h => h) (Or.inl ⟨by rfl, ?yzs15⟩) hHeld ?rzs15
  case yzs15 => (intro wS hSw; clear hSw; go_simp; try (with_reducible rfl))
  try simp only [List.getElem_toArray, List.getElem_cons_zero, List.getElem_cons_succ, Act.put, List.setIfInBounds_toArray, List.set_cons_zero, List.set_cons_succ]
  refine wpAnyH_take (i := 16) (v := ?vzs16) rfl (by kernel_rfl) (by kernel_rfl) (by kernel_rfl) (fun _ _ _ h => h) (Or.inl ⟨by rfl, ?yzs16⟩) hHeld ?rzs16
  case yzs16 => (intro wS hSw; clear hSw; go_simp; try (with_reducible rfl))
  try simp only [List.getElem_toArray, List.getElem_cons_zero, List.getElem_cons_succ, Act.put, List.setIfInBounds_toArray, List.set_cons_zero, List.set_cons_succ]
  refine wpAnyH_take (i := 17) (v := ?vzs17) rfl (by kernel_rfl) (by kernel_rfl) (by kernel_rfl) (fun _ _ _ h => h) (Or.inl ⟨by rfl, ?yzs17⟩) hHeld ?rzs17
  case yzs17 => (intro wS hSw; clear hSw; go_simp; try (with_reducible rfl))
  try simp only [List.getElem_toArray, List.getElem_cons_zero, List.getElem_cons_succ, Act.put, List.setIfInBounds_toArray, List.set_cons_zero, List.set_cons_succ]
  refine wpAnyH_ready (rs := [18]) (by kernel_rfl) (by simp) (AllReadyH.cons rfl (fun K hK => ?_) AllReadyH.nil)
  go_simp
  go_at_call 18
  refine (eq_true (eqInts_any B3 B4 m3 d3 m4 d4 (zl l2) (zl l2) w11 (by rw [zl_size]; exact hl3.out) (by rw [zl_size]; exact hl4.out) V311.out V411.out (by omega) (by omega)) rfl).mono ?_
  rintro e w12 ⟨rfl, hb⟩
  have N12 := Lib.hid (N11.out.then hb)
  have I12 := Lib.hid (I11.out.then hb)
  have Q12 := Lib.hid (Q11.out.below hb)
  have F12 := Lib.hid (F11.out.below hb)
  have V112 := Lib.hid (V111.out.below hb)
  have V212 := Lib.hid (V211.out.below hb)
  have V312 := Lib.hid (V311.out.below hb)
  have V412 := Lib.hid (V411.out.below hb)
  have hS1 := And.intro N12.out.net I12.out.net
  clear hHeld hb N11 I11 Q11 F11 V111 V211 V311 V411
  go_wp2_with fail
  refine hK.out _ _ hS1 (fun hHeld => ?_)
  clear hK K hS1
  try simp only [List.getElem_toArray, List.getElem_cons_zero, List.getElem_cons_succ, Act.put, List.setIfInBounds_toArray, List.set_cons_zero, List.set_cons_succ]
  refine wpAnyH_take (i := 19) (v := ?vzs19) rfl (by kernel_rfl) (by kernel_rfl) (by kernel_rfl) (fun _ _ _ h => h) (Or.inl ⟨by rfl, ?yzs19⟩) hHeld ?rzs19
  case yzs19 => (intro wS hSw; clear hSw; go_simp; try (with_reducible rfl))
  try simp only [List.getElem_toArray, List.getElem_cons_zero, List.getElem_cons_succ, Act.put, List.setIfInBounds_toArray, List.set_cons_zero, List.set_cons_succ]
  refine wpAnyH_take (i := 20) (v := ?vzs20) rfl (by kernel_rfl) (by kernel_rfl) (by kernel_rfl) (fun _ _ _ h => h) (Or.inl ⟨by rfl, ?yzs20⟩) hHeld ?rzs20
  case yzs20 => (intro wS hSw; clear hSw; go_simp; try (with_reducible rfl))
  try simp only [List.getElem_toArray, List.getElem_cons_zero, List.getElem_cons_succ, Act.put, List.setIfInBounds_toArray, List.set_cons_zero, List.set_cons_succ]
  refine wpAnyH_take (i := 21) (v := ?vzs21) rfl (by kernel_rfl) (by kernel_rfl) (by kernel_rfl) (fun _ _ _ h => h) (Or.inl ⟨by rfl, ?yzs21⟩) hHeld ?rzs21
  case yzs21 => (intro wS hSw; clear hSw; go_simp; try (with_reducible rfl))
  try simp only [List.getElem_toArray, List.getElem_cons_zero, List.getElem_cons_succ, Act.put, List.setIfInBounds_toArray, List.set_cons_zero, List.set_cons_succ]
  refine wpAnyH_take (i := 22) (v := ?vzs22) rfl (by kernel_rfl) (by kernel_rfl) (by kernel_rfl) (fun _ _ _ h => h) (Or.inl ⟨by rfl, ?yzs22⟩) hHeld ?rzs22
  case yzs22 => (intro wS hSw; clear hSw; go_simp; try (with_reducible rfl))
  try simp only [List.getElem_toArray, List.getElem_cons_zero, List.getElem_cons_succ, Act.put, List.setIfInBounds_toArray, List.set_cons_zero, List.set_cons_succ]
  refine wpAnyH_take (i := 23) (v := ?vzs23) rfl (by kernel_rfl) (by kernel_rfl) (by kernel_rfl) (fun _ _ _ h => h) (Or.inl ⟨by rfl, ?yzs23⟩) hHeld ?rzs23
  case yzs23 => (intro wS hSw; clear hSw; go_simp; try (with_reducible rfl))
  try simp only [List.getElem_toArray, List.getElem_cons_zero, List.getElem_cons_succ, Act.put, List.setIfInBounds_toArray, List.set_cons_zero, List.set_cons_succ]
  refine wpAnyH_take (i := 24) (v := ?vzs24) rfl (by kernel_rfl) (by kernel_rfl) (by kernel_rfl) (fun _ _ _ h => h) (Or.inl ⟨by rfl, ?yzs24⟩) hHeld ?rzs24
  case yzs24 => (intro wS hSw; clear hSw; go_simp; try (with_reducible rfl))
  try simp only [List.getElem_toArray, List.getElem_cons_zero, List.getElem_cons_succ, Act.put, List.setIfInBounds_toArray, List.set_cons_zero, List.set_cons_succ]
  refine wpAnyH_take (i := 25) (v := ?vzs25) rfl (by kernel_rfl) (by kernel_rfl) (by kernel_rfl) (fun _ _ _ h => h) (Or.inl ⟨by rfl, ?yzs25⟩) hHeld ?rzs25
  case yzs25 => (intro wS hSw; clear hSw; go_simp; try (with_reducible rfl))
  try simp only [List.getElem_toArray, List.getElem_cons_zero, List.getElem_cons_succ, Act.put, List.setIfInBounds_toArray, List.set_cons_zero, List.set_cons_succ]
  refine wpAnyH_take (i := 26) (v := .agg #[.int .i64 S, .slice Ai n ci, .slice Bi n2 di]) rfl (by kernel_rfl) (by kernel_rfl) (by kernel_rfl) (fun _ _ _ h => h) (yields_part 29 3 (by rfl) (.tmp 7) rfl ⟨gi, 0, none⟩ rfl [.int .i64 S, .slice Ai n ci, .slice Bi n2 di] agg_net sz_net rfl (fun w hw => load_net w hw.2)) hHeld ?_
  try simp only [List.getElem_toArray, List.getElem_cons_zero, List.getElem_cons_succ, Act.put, List.setIfInBounds_toArray, List.set_cons_zero, List.set_cons_succ]
  refine wpAnyH_take (i := 27) (v := .agg #[.int .i64 S, .slice A n c, .slice A2 n2 c2]) rfl (by kernel_rfl) (by kernel_rfl) (by kernel_rfl) (fun _ _ _ h => h) (yields_part 29 3 (by rfl) (.tmp 3) rfl ⟨g, 0, none⟩ rfl [.int .i64 S, .slice A n c, .slice A2 n2 c2] agg_net sz_net rfl (fun w hw => load_net w hw.1)) hHeld ?_
  try simp only [List.getElem_toArray, List.getElem_cons_zero, List.getElem_cons_succ, Act.put, List.setIfInBounds_toArray, List.set_cons_zero, List.set_cons_succ]
  refine wpAnyH_ready (rs := [28]) (by kernel_rfl) (by simp) (AllReadyH.cons rfl (fun K hK => ?_) AllReadyH.nil)
  go_simp
  go_at_call 7
  refine (rsame_any S E X Ai Bi A A2 n ci n2 di c c2 p3.out p4.out hni hmi w12 I12.out.re I12.out.rx N12.out.re N12.out.rx).mono ?_
  rintro e w13 ⟨rfl, hb⟩
  have N13 := Lib.hid (N12.out.then hb)
  have I13 := Lib.hid (I12.out.then hb)
  have Q13 := Lib.hid (Q12.out.below hb)
  have F13 := Lib.hid (F12.out.below hb)
  have V113 := Lib.hid (V112.out.below hb)
  have V213 := Lib.hid (V212.out.below hb)
  have V313 := Lib.hid (V312.out.below hb)
  have V413 := Lib.hid (V412.out.below hb)
  have hS1 := And.intro N13.out.net I13.out.net
  clear hHeld hb N12 I12 Q12 F12 V112 V212 V312 V412
  go_wp2_with fail
  refine hK.out _ _ hS1 (fun hHeld => ?_)
  clear hK K hS1
  try simp only [List.getElem_toArray, List.getElem_cons_zero, List.getElem_cons_succ, Act.put, List.setIfInBounds_toArray, List.set_cons_zero, List.set_cons_succ]
  refine wpAnyH_take (i := 29) (v := ?vzs29) rfl (by kernel_rfl) (by kernel_rfl) (by kernel_rfl) (fun _ _ _ h => h) (Or.inl ⟨by rfl, ?yzs29⟩) hHeld ?rzs29
  case yzs29 => (intro wS hSw; clear hSw; go_simp; try (with_reducible rfl))
  try simp only [List.getElem_toArray, List.getElem_cons_zero, List.getElem_cons_succ, Act.put, List.setIfInBounds_toArray, List.set_cons_zero, List.set_cons_succ]
  refine wpAnyH_take (i := 30) (v := ?vzs30) rfl (by kernel_rfl) (by kernel_rfl) (by kernel_rfl) (fun _ _ _ h => h) (Or.inl ⟨by rfl, ?yzs30⟩) hHeld ?rzs30
  case yzs30 => (intro wS hSw; clear hSw; go_simp; try (with_reducible rfl))
  try simp only [List.getElem_toArray, List.getElem_cons_zero, List.getElem_cons_succ, Act.put, List.setIfInBounds_toArray, List.set_cons_zero, List.set_cons_succ]
  refine wpAnyH_take (i := 31) (v := ?vzs31) rfl (by kernel_rfl) (by kernel_rfl) (by kernel_rfl) (fun _ _ _ h => h) (Or.inl ⟨by rfl, ?yzs31⟩) hHeld ?rzs31
  case yzs31 => (intro wS hSw; clear hSw; go_simp; try (with_reducible rfl))
  try simp only [List.getElem_toArray, List.getElem_cons_zero, List.getElem_cons_succ, Act.put, List.setIfInBounds_toArray, List.set_cons_zero, List.set_cons_succ]
  refine wpAnyH_take (i := 32) (v := ?vzs32) rfl (by kernel_rfl) (by kernel_rfl) (by kernel_rfl) (fun _ _ _ h => h) (Or.inl ⟨by rfl, ?yzs32⟩) hHeld ?rzs32
  case yzs32 => (intro wS hSw; clear hSw; go_simp; try (with_reducible rfl))
  try simp only [List.getElem_toArray, List.getElem_cons_zero, List.getElem_cons_succ, Act.put, List.setIfInBounds_toArray, List.set_cons_zero, List.set_cons_succ]
  refine wpAnyH_ready (rs := [33]) (by kernel_rfl) (by simp) (AllReadyH.cons rfl (fun K hK => ?_) AllReadyH.nil)
  go_simp
  go_at_call 18
  refine (eq_true (eqInts_any Af A3 nf cf na ca la la w13 hlf.out HA.out F13.out Q13.out hnf (by omega)) rfl).mono ?_
  rintro e w14 ⟨rfl, hb⟩
  have N14 := Lib.hid (N13.out.then hb)
  have I14 := Lib.hid (I13.out.then hb)
  have Q14 := Lib.hid (Q13.out.below hb)
  have F14 := Lib.hid (F13.out.below hb)
  have V114 := Lib.hid (V113.out.below hb)
  have V214 := Lib.hid (V213.out.below hb)
  have V314 := Lib.hid (V313.out.below hb)
  have V414 := Lib.hid (V413.out.below hb)
  have hS1 := And.intro N14.out.net I14.out.net
  clear hHeld hb N13 I13 Q13 F13 V113 V213 V313 V413
  go_wp2_with fail
  refine hK.out _ _ hS1 (fun hHeld => ?_)
  clear hK K hS1
  try simp only [List.getElem_toArray, List.getElem_cons_zero, List.getElem_cons_succ, Act.put, List.setIfInBounds_toArray, List.set_cons_zero, List.set_cons_succ]
  refine wpAnyH_take (i := 34) (v := ?vzs34) rfl (by kernel_rfl) (by kernel_rfl) (by kernel_rfl) (fun _ _ _ h => h) (Or.inl ⟨by rfl, ?yzs34⟩) hHeld ?rzs34
  case yzs34 => (intro wS hSw; clear hSw; go_simp; try (with_reducible rfl))
  try simp only [List.getElem_toArray, List.getElem_cons_zero, List.getElem_cons_succ, Act.put, List.setIfInBounds_toArray, List.set_cons_zero, List.set_cons_succ]
  refine wpAnyH_take (i := 35) (v := ?vzs35) rfl (by kernel_rfl) (by kernel_rfl) (by kernel_rfl) (fun _ _ _ h => h) (Or.inl ⟨by rfl, ?yzs35⟩) hHeld ?rzs35
  case yzs35 => (intro wS hSw; clear hSw; go_simp; try (with_reducible rfl))
  try simp only [List.getElem_toArray, List.getElem_cons_zero, List.getElem_cons_succ, Act.put, List.setIfInBounds_toArray, List.set_cons_zero, List.set_cons_succ]
  refine wpAnyH_ready (rs := [36]) (by kernel_rfl) (by simp) (AllReadyH.cons rfl (fun K hK => ?_) AllReadyH.nil)
  go_simp
  go_at_call 11
  refine (works_any w14).mono ?_
  rintro e w15 ⟨rfl, hb⟩
  have N15 := Lib.hid (N14.out.then hb)
  have I15 := Lib.hid (I14.out.then hb)
  have Q15 := Lib.hid (Q14.out.below hb)
  have F15 := Lib.hid (F14.out.below hb)
  have V115 := Lib.hid (V114.out.below hb)
  have V215 := Lib.hid (V214.out.below hb)
  have V315 := Lib.hid (V314.out.below hb)
  have V415 := Lib.hid (V414.out.below hb)
  have hS1 := And.intro N15.out.net I15.out.net
  clear hHeld hb N14 I14 Q14 F14 V114 V214 V314 V414
  go_wp2_with fail
  refine hK.out _ _ hS1 (fun hHeld => ?_)
  clear hK K hS1
  try simp only [List.getElem_toArray, List.getElem_cons_zero, List.getElem_cons_succ, Act.put, List.setIfInBounds_toArray, List.set_cons_zero, List.set_cons_succ]
  refine wpAnyH_take (i := 37) (v := ?vzs37) rfl (by kernel_rfl) (by kernel_rfl) (by kernel_rfl) (fun _ _ _ h => h) (Or.inl ⟨by rfl, ?yzs37⟩) hHeld ?rzs37
  case yzs37 => (intro wS hSw; clear hSw; go_simp; try (with_reducible rfl))
  try simp only [List.getElem_toArray, List.getElem_cons_zero, List.getElem_cons_succ, Act.put, List.setIfInBounds_toArray, List.set_cons_zero, List.set_cons_succ]
  refine wpAnyH_take (i := 38) (v := ?vzs38) rfl (by kernel_rfl) (by kernel_rfl) (by kernel_rfl) (fun _ _ _ h => h) (Or.inl ⟨by rfl, ?yzs38⟩) hHeld ?rzs38
  case yzs38 => (intro wS hSw; clear hSw; go_simp; try (with_reducible rfl))
  try simp only [List.getElem_toArray, List.getElem_cons_zero, List.getElem_cons_succ, Act.put, List.setIfInBounds_toArray, List.set_cons_zero, List.set_cons_succ]
  refine wpAnyH_done (by kernel_rfl) ?_ _
  go_wp2_with fail
  exact post_is HQ ⟨rfl, N15.out.low⟩

end Go.Proofs.YtjibfffefppniaaGreat
