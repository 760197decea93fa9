/- The law on runs: the walk. -/
import Derived.Test.YtjibfffefppniaaRfRM
set_option linter.unusedVariables false
set_option linter.unusedSimpArgs false
namespace Go.Proofs.Ytjibfffefppniaa
open Go.RowKit
attribute [local go_sem] Oper.semAt_some

theorem NetB.runL {W : World} {g : Nat} {S : Int} {E : List Ed} {X : List Int} {A A2 : Option Addr} {n c n2 c2 : Nat} {w : World} (h : NetB W g S E X A A2 n c n2 c2 w) (ts : List UInt8) (B : Option Addr) (m k : Nat) (hm : ts.length = m) (hm2 : m ≤ 140737488355328) (hr : Rd w B ts) :
    Calls Try.prog 7 #[.agg #[.int .i64 S, .slice A n c, .slice A2 n2 c2], .slice B m k] w (GotRn w (runE S E X ts)) :=
  run_any S E X ts A A2 B n c n2 c2 m k h.ln h.lx hm h.cn h.cx h.bn h.bx hm2 w h.re h.rx hr
set_option maxRecDepth 100000 in
set_option maxHeartbeats 16000000 in
theorem runs_walk (S : Int) (A A2 At : Option Addr) (n c n2 c2 nt ct : Nat) (E : List Ed) (X : List Int) (T : List UInt8) (W : World) (he : E.length = n ∧ n ≤ c ∧ c * 56 ≤ 140737488351232 ∧ RdE W A E) (hx : X.length = n2 ∧ n2 ≤ c2 ∧ c2 * 8 ≤ 140737488351232 ∧ RdW W A2 X) (ht : T.length = nt) (htc : nt ≤ ct) (hct : ct ≤ 140737488351232) (rt : Rd W At T) :
    Calls Try.prog 3 #[.agg #[.int .i64 S, .slice A n c, .slice A2 n2 c2], .slice At nt ct] W (Yes W) := by
  generalize hQ : Yes W = Q
  have HQ := Lib.hid hQ
  have b0 := bl_alloc (Below.refl W.heap.size W) (.cells #[.int .i64 S, .slice A n c, .slice A2 n2 c2] 25)
  obtain ⟨he1, he2, he3, he4⟩ := he
  obtain ⟨hx1, hx2, hx3, hx4⟩ := hx
  have N0 := Lib.hid (show NetB W W.heap.size S E X A A2 n c n2 c2 (W.alloc (.cells #[.int .i64 S, .slice A n c, .slice A2 n2 c2] 25)) from ⟨heap_alloc_new W _, he4.below b0, hx4.below b0, b0, he1, hx1, he2, hx2, by omega, by omega⟩)
  have R0 := Lib.hid (rt.below b0)
  have HT := Lib.hid ht
  clear hQ b0 he1 he4 hx1 hx4 rt ht
  go_enter Try.func3, Try.ntmps3
  go_upto_region 1 with fail
  generalize W.alloc (.cells #[.int .i64 S, .slice A n c, .slice A2 n2 c2] 25) = w0 at *
  generalize W.heap.size = g at *
  by_cases h30 : nt ≤ 30
  · have t1 : decide ((30 : Int) < (nt : Int)) = false := by simp; omega
    have t1' : decide (30 < nt) = false := by simp; omega
    have L0 := Lib.hid N0.out.load
    have HC := N0.out.runL T At nt ct HT.out (by omega) R0.out
    obtain ⟨⟨z, k⟩, hzk⟩ : ∃ r, runE S E X T = r := ⟨_, rfl⟩
    rw [hzk] at HC
    have HZ := Lib.hid hzk
    have HC2 := Lib.hid HC
    clear HC hzk
    go_wp2_with (refine wpList_load_part 25 3 _ rfl rfl ⟨g, 0, none⟩ rfl [.int .i64 S, .slice A n c, .slice A2 n2 c2] (agg_net _) (sz_net _) rfl L0.out ?_)
    refine HC2.out.mono ?_
    rintro e w2 ⟨rfl, hb⟩
    have N2 := Lib.hid (N0.out.then hb)
    have R2 := Lib.hid (R0.out.below hb)
    clear HC2 hb L0 N0
    have L2 := Lib.hid N2.out.load
    have HC := rrun_any S E X T A A2 At n c n2 c2 nt ct N2.out.ln N2.out.lx HT.out N2.out.cn N2.out.cx N2.out.bn N2.out.bx (by omega) w2 N2.out.re N2.out.rx R2.out
    rw [HZ.out] at HC
    have HC2 := Lib.hid HC
    clear HC
    dsimp only
    go_wp2_with (refine wpList_load_part 25 3 _ rfl rfl ⟨g, 0, none⟩ rfl [.int .i64 S, .slice A n c, .slice A2 n2 c2] (agg_net _) (sz_net _) rfl L2.out ?_)
    refine HC2.out.mono ?_
    rintro e w3 ⟨rfl, hb⟩
    have B3 := Lib.hid (bl_trans N2.out.low hb)
    clear HC2 hb L2 N2 R2
    have u1 : (z == z) = true := by simp
    have u2 : ((k : Int) == (k : Int)) = true := by simp
    dsimp only
    go_wp2_with fail
    refine (works_any _).mono ?_
    rintro e w4 ⟨rfl, hb⟩
    have B4 := Lib.hid (bl_trans B3.out hb)
    clear hb
    go_wp2_with fail
    exact post_is HQ ⟨rfl, B4.out⟩
  · have t1 : decide ((30 : Int) < (nt : Int)) = true := by simp; omega
    have t1' : decide (30 < nt) = true := by simp; omega
    by_cases h8 : nt ≤ 8192
    · have t2 : decide ((nt : Int) ≤ 8192) = true := by simp; omega
      have t2' : decide (nt ≤ 8192) = true := by simp; omega
      have hcut := cut_t At nt ct 30 (by omega) htc
      have R1 := Lib.hid (show Rd w0 At (T.take 30) from R0.out.take 30)
      have HT1 := Lib.hid (show (T.take 30).length = 30 by rw [List.length_take, HT.out]; omega)
      generalize T.take 30 = ts at *
      clear R0 HT
      have L0 := Lib.hid N0.out.load
      have HC := N0.out.runL ts At 30 ct HT1.out (by omega) R1.out
      obtain ⟨⟨z, k⟩, hzk⟩ : ∃ r, runE S E X ts = r := ⟨_, rfl⟩
      rw [hzk] at HC
      have HZ := Lib.hid hzk
      have HC2 := Lib.hid HC
      clear HC hzk
      go_wp2_with (refine wpList_load_part 25 3 _ rfl rfl ⟨g, 0, none⟩ rfl [.int .i64 S, .slice A n c, .slice A2 n2 c2] (agg_net _) (sz_net _) rfl L0.out ?_)
      refine HC2.out.mono ?_
      rintro e w2 ⟨rfl, hb⟩
      have N2 := Lib.hid (N0.out.then hb)
      have R2 := Lib.hid (R1.out.below hb)
      clear HC2 hb L0 N0
      have L2 := Lib.hid N2.out.load
      have HC := rrun_any S E X ts A A2 At n c n2 c2 30 ct N2.out.ln N2.out.lx HT1.out N2.out.cn N2.out.cx N2.out.bn N2.out.bx (by omega) w2 N2.out.re N2.out.rx R2.out
      rw [HZ.out] at HC
      have HC2 := Lib.hid HC
      clear HC
      dsimp only
      go_wp2_with (refine wpList_load_part 25 3 _ rfl rfl ⟨g, 0, none⟩ rfl [.int .i64 S, .slice A n c, .slice A2 n2 c2] (agg_net _) (sz_net _) rfl L2.out ?_)
      refine HC2.out.mono ?_
      rintro e w3 ⟨rfl, hb⟩
      have B3 := Lib.hid (bl_trans N2.out.low hb)
      clear HC2 hb L2 N2 R2
      have u1 : (z == z) = true := by simp
      have u2 : ((k : Int) == (k : Int)) = true := by simp
      dsimp only
      go_wp2_with fail
      refine (works_any _).mono ?_
      rintro e w4 ⟨rfl, hb⟩
      have B4 := Lib.hid (bl_trans B3.out hb)
      clear hb
      go_wp2_with fail
      exact post_is HQ ⟨rfl, B4.out⟩
    · have t2 : decide ((nt : Int) ≤ 8192) = false := by simp; omega
      have t2' : decide (nt ≤ 8192) = false := by simp; omega
      have L0 := Lib.hid N0.out.load
      have HC := N0.out.runL T At nt ct HT.out (by omega) R0.out
      obtain ⟨⟨z, k⟩, hzk⟩ : ∃ r, runE S E X T = r := ⟨_, rfl⟩
      rw [hzk] at HC
      have HZ := Lib.hid hzk
      have HC2 := Lib.hid HC
      clear HC hzk
      go_wp2_with (refine wpList_load_part 25 3 _ rfl rfl ⟨g, 0, none⟩ rfl [.int .i64 S, .slice A n c, .slice A2 n2 c2] (agg_net _) (sz_net _) rfl L0.out ?_)
      refine HC2.out.mono ?_
      rintro e w2 ⟨rfl, hb⟩
      have N2 := Lib.hid (N0.out.then hb)
      have R2 := Lib.hid (R0.out.below hb)
      clear HC2 hb L0 N0
      have L2 := Lib.hid N2.out.load
      have HC := rrun_any S E X T A A2 At n c n2 c2 nt ct N2.out.ln N2.out.lx HT.out N2.out.cn N2.out.cx N2.out.bn N2.out.bx (by omega) w2 N2.out.re N2.out.rx R2.out
      rw [HZ.out] at HC
      have HC2 := Lib.hid HC
      clear HC
      dsimp only
      go_wp2_with (refine wpList_load_part 25 3 _ rfl rfl ⟨g, 0, none⟩ rfl [.int .i64 S, .slice A n c, .slice A2 n2 c2] (agg_net _) (sz_net _) rfl L2.out ?_)
      refine HC2.out.mono ?_
      rintro e w3 ⟨rfl, hb⟩
      have B3 := Lib.hid (bl_trans N2.out.low hb)
      clear HC2 hb L2 N2 R2
      have u1 : (z == z) = true := by simp
      have u2 : ((k : Int) == (k : Int)) = true := by simp
      dsimp only
      go_wp2_with fail
      refine (works_any _).mono ?_
      rintro e w4 ⟨rfl, hb⟩
      have B4 := Lib.hid (bl_trans B3.out hb)
      clear hb
      go_wp2_with fail
      exact post_is HQ ⟨rfl, B4.out⟩

end Go.Proofs.Ytjibfffefppniaa
