/- Machines: the document's Same, of machines that are the same. -/
import Derived.Test.YtcgfogdfcdndgaaGreatDoorDhBQ
import Derived.Deep.QuietTactic
set_option linter.unusedVariables false
set_option linter.unusedSimpArgs false
namespace Go.Proofs.YtcgfogdfcdndgaaGreatDoor
open Go.RowKit
attribute [local go_sem] Oper.semAt_some
attribute [-go_sem] run_equalIn_agg

def QuietY (w : World) (b : Bool) (e : Ending) (w' : World) : Prop := e = .returned (.bool b) ∧ ∃ m, w' = w.drewN m
set_option maxHeartbeats 400000 in
set_option maxRecDepth 20000 in
theorem eqi_quiet (A A' : Option Addr) (n c n' c' : Nat) (l : List Int) (w : World) (hl : l.length = n) (hl' : l.length = n') (hr : RdW w A l) (hr' : RdW w A' l) (hn : n ≤ 140737488355328) :
    Calls Tryz.prog 28 #[.slice A n c, .slice A' n' c'] w (QuietY w true) := by
  obtain rfl : n = n' := by omega
  have hb : ((n : Int) != (n : Int)) = false := by simp
  have HL := Lib.hid hl
  clear hl hl'
  go_enter Tryz.func28, Tryz.ntmps28
  go_wp2_with fail
  go_loopw [5] (fun i wr => ∃ k m : Nat, k ≤ n ∧ i = .int .i64 (k : Int) ∧ Hid (wr = w.drewN m)) (fun i _ => n - (intOf i).toNat)
  case atStart => exact ⟨0, 0, Nat.zero_le _, rfl, rfl⟩
  case round =>
    obtain ⟨k, m, hk, rfl, HW⟩ := hrel
    by_cases hlt : k < n
    · have h1 : k < l.length := by rw [HL.out]; exact hlt
      have hrr : RdW wr A l := by rw [HW.out]; exact hr
      have hrr' : RdW wr A' l := by rw [HW.out]; exact hr'
      obtain ⟨ad, hA, hc⟩ := hrr k h1
      obtain ⟨ad', hA', hc'⟩ := hrr' k h1
      subst hA hA'
      clear hr hr' hrr hrr'
      generalize l[k] = x at *
      have hb2 : (x != x) = false := by simp
      clear h1
      go_wp2_with fail
      go_quiet (fail)
      go_wp2_with fail
      exact ⟨⟨k + 1, m + nq, by omega, by go_num, by rw [HW.out]; exact World.drewN_drewN ..⟩, by simp [intOf]; omega⟩
    · obtain rfl : k = n := by omega
      go_wp2_with fail
      go_ret
      exact ⟨rfl, m, HW.out⟩
def clA (cl : Nat → Int) : Array Value := ((List.range 256).map fun c => Value.int .i64 (cl c)).toArray
theorem cla_at (cl : Nat → Int) {i : Nat} (hi : i < 256) : (clA cl)[i]? = some (.int .i64 (cl i)) := by
  unfold clA
  rw [List.getElem?_toArray]
  simp [hi]
set_option maxRecDepth 20000 in
theorem equal_cls (cl : Nat → Int) (w : World) : (Op.equalIn 10000 30 (.agg (clA cl)) (.agg (clA cl))).run Tryz.prog w = .ok true w := by
  have ht := Tryz.underlying30
  have he := Tryz.underlying3
  have hsz : ∀ w, (sizeOf 3).run Tryz.prog w = .ok 1 w := fun w => by kernel_rfl
  rw [Op.equalIn]
  simp only [Sem.run_bind, run_underlying ht, Result.andThen_ok, hsz, Std.Legacy.Range.forIn_eq_forIn_range', Std.Legacy.Range.size, Nat.sub_zero, Nat.add_sub_cancel, Nat.div_one]
  have hl : ∀ i ∈ List.range' 0 256 1, i < 256 := fun i hi => by simpa using (List.mem_range'_1.1 hi).2
  generalize List.range' 0 256 1 = l at hl ⊢
  induction l with
  | nil => simp
  | cons i l ih =>
    have hi : i < 256 := hl i (by simp)
    have px : (part 3 (clA cl) (i * 1)).run Tryz.prog w = .ok (.int .i64 (cl i)) w := by
      have := cla_at cl hi
      simp [part, isAgg, run_underlying he, this]
    have pe : (Op.equalIn 9999 3 (.int .i64 (cl i)) (.int .i64 (cl i))).run Tryz.prog w = .ok true w := by
      rw [run_equalIn_int w 9998 3 .i64 .i64 _ _ he]
      simp
    simp only [List.forIn_cons, Sem.run_bind, px, pe, Result.andThen_ok]
    simp only [Bool.not_true, Bool.false_eq_true, if_false, Sem.run_pure, Result.andThen_ok]
    exact ih fun j hj => hl j (by simp [hj])
theorem aggC (w : World) : (isAgg 30).run Tryz.prog w = .ok true w := by kernel_rfl
theorem szC (w : World) : (sizeOf 30).run Tryz.prog w = .ok 256 w := by kernel_rfl
theorem load_cl {w : World} {g : Nat} {cl : Nat → Int} {t : List Value} {ty : TypeId} {z : Nat × Nat} (h : w.heap[g]? = some (.cells (mkT cl t) ty z)) : ∀ j u, ((List.range 256).map fun c => Value.int .i64 (cl c))[j]? = some u → w.cell? ((⟨g, 0, none⟩ : Addr).add j) = some u := fun j u hu => by
  have hj : j < 256 := by
    have := (List.getElem?_eq_some_iff.1 hu).1
    simpa using this
  rw [addr_mk, Nat.zero_add, cell_of_row w g j _ _ _ h, mkT_cl _ _ hj, ← hu]
  simp [hj]
set_option maxRecDepth 100000 in
set_option maxHeartbeats 8000000 in
theorem rsamed_any (cl : Nat → Int) (T : List (List Int)) (X : List Int) (An Ax Bn Bx : Option Addr) (nn cn nx cx dn dx : Nat) (hnn : T.length = nn) (hnx : X.length = nx) (hn2 : nn ≤ 140737488355328) (hx2 : nx ≤ 140737488355328) (hrb : ∀ r ∈ T, r.length ≤ 140737488355328) (W : World) (hr : RdTb W An T) (hx : RdW W Ax X) (hr' : RdTb W Bn T) (hx' : RdW W Bx X) :
    Calls Tryz.prog 16 #[.agg (mkT cl [.slice An nn cn, .slice Ax nx cx]), .agg (mkT cl [.slice Bn nn dn, .slice Bx nx dx])] W (GotBl W true) := by
  generalize hQ : GotBl W true = Q
  have HQ := Lib.hid hQ
  have b0 := bl_alloc (Below.refl W.heap.size W) (.cells (mkT cl [.slice An nn cn, .slice Ax nx cx]) 33)
  have b1 := bl_alloc b0 (.cells (mkT cl [.slice Bn nn dn, .slice Bx nx dx]) 33)
  have e1 : (W.alloc (.cells (mkT cl [.slice An nn cn, .slice Ax nx cx]) 33)).heap.size = W.heap.size + 1 := World.size_alloc _ _
  have M0 := Lib.hid (show MachB W W.heap.size cl T X An Ax nn cn nx cx (mkT cl [.slice An nn cn, .slice Ax nx cx]) ((W.alloc (.cells (mkT cl [.slice An nn cn, .slice Ax nx cx]) 33)).alloc (.cells (mkT cl [.slice Bn nn dn, .slice Bx nx dx]) 33)) from
    ⟨(Below.heap_alloc _ _ _ (by rw [e1]; omega)).trans (heap_alloc_new W _), rfl, hr.below b1, hx.below b1, b1, hnn, hnx, hn2, hx2⟩)
  have M1 := Lib.hid (show MachB W (W.heap.size + 1) cl T X Bn Bx nn dn nx dx (mkT cl [.slice Bn nn dn, .slice Bx nx dx]) ((W.alloc (.cells (mkT cl [.slice An nn cn, .slice Ax nx cx]) 33)).alloc (.cells (mkT cl [.slice Bn nn dn, .slice Bx nx dx]) 33)) from
    ⟨by rw [← e1]; exact heap_alloc_new _ _, rfl, hr'.below b1, hx'.below b1, b1, hnn, hnx, hn2, hx2⟩)
  have HN := Lib.hid hnn
  have HNX := Lib.hid hnx
  have HRB := Lib.hid hrb
  have hq : ∀ w, (Op.equalIn 10000 30 (.agg ((List.range 256).map fun c => Value.int .i64 (cl c)).toArray) (.agg ((List.range 256).map fun c => Value.int .i64 (cl c)).toArray)).run Tryz.prog w = .ok true w := equal_cls cl
  have LC0 := Lib.hid (load_cl (cl := cl) (t := [.slice An nn cn, .slice Ax nx cx]) (by rw [M0.out.hd]; exact M0.out.box))
  have LC1 := Lib.hid (load_cl (cl := cl) (t := [.slice Bn nn dn, .slice Bx nx dx]) (by rw [M1.out.hd]; exact M1.out.box))
  have hcl : ((List.range 256).map fun c => Value.int .i64 (cl c)).length = 256 := by simp
  generalize ((List.range 256).map fun c => Value.int .i64 (cl c)) = Lc at *
  clear hQ hr hx hr' hx' hnn hnx b0 b1 hrb e1
  generalize mkT cl [.slice An nn cn, .slice Ax nx cx] = dv at *
  generalize mkT cl [.slice Bn nn dn, .slice Bx nx dx] = ev at *
  go_enter Tryz.func16, Tryz.ntmps16
  go_upto_region 1 with fail
  generalize (W.alloc (.cells dv 33)).alloc (.cells ev 33) = wA at *
  have hgg : W.heap.size + 1 = W.heap.size + 1 := rfl
  have a1 := M0.out.next
  have a2 := M0.out.rule
  have b1 := M1.out.next
  have b2 := M1.out.rule
  have d1 : ((nn : Int) != (nn : Int)) = false := by simp
  have HE := eqInts_any Ax Bx nx cx nx dx X X wA HNX.out HNX.out M0.out.rx M1.out.rx hx2 hx2
  rw [show decide (X = X) = true from by simp] at HE
  have HE := Lib.hid HE
  go_wp2_with (first | (refine wpList_load_part 30 256 _ rfl rfl ⟨W.heap.size, 0, none⟩ rfl Lc (aggC _) (szC _) hcl LC0.out ?_) | (refine wpList_load_part 30 256 _ rfl rfl ⟨W.heap.size + 1, 0, none⟩ rfl Lc (aggC _) (szC _) hcl LC1.out ?_))
  refine HE.out.mono ?_
  rintro e w2 ⟨rfl, hb2⟩
  have M2 := Lib.hid (M0.out.then hb2)
  have P2 := Lib.hid (M1.out.then hb2)
  clear hb2 HE M0 M1 a1 a2 b1 b2 LC0 LC1 hq
  go_wp2_with fail
  go_loopw [5] (fun vi wr => ∃ k : Nat, k ≤ nn ∧ vi = .int .i64 (k : Int) ∧ Hid (Below w2.heap.size w2 wr)) (fun vi _ => nn - (intOf vi).toNat)
  case atStart => exact ⟨0, Nat.zero_le _, rfl, Below.refl _ _⟩
  case round =>
    obtain ⟨k, hk, rfl, HBW⟩ := hrel
    have M3 := Lib.hid (M2.out.then HBW.out)
    have P3 := Lib.hid (P2.out.then HBW.out)
    have a1 := M3.out.next
    have b1 := P3.out.next
    by_cases hlt : k < nn
    · have hkl : k < T.length := by rw [HN.out]; exact hlt
      obtain ⟨ad, hA, B1, m1, d1, hc1, hm1, hmd1, hr1⟩ := M3.out.row hkl
      obtain ⟨bd, hB, B2, m2, d2, hc2, hm2, hmd2, hr2⟩ := P3.out.row hkl
      subst hA hB
      have i1 : (k : Int) < (nn : Int) := by omega
      have hrb9 : m1 ≤ 140737488355328 := by rw [← hm1]; exact HRB.out _ (List.getElem_mem hkl)
      generalize T[k] = row at *
      have HQE := Lib.hid (fun w' (h1 : RdW w' B1 row) (h2 : RdW w' B2 row) => eqi_quiet B1 B2 m1 d1 m2 d2 row w' hm1 hm2 h1 h2 hrb9)
      clear hkl hm1 hm2
      go_wp2_with fail
      go_quiet ((go_at_call 28; exact Calls.quiet_of (HQE.out _ hr1 hr2)))
      go_wp2_with fail
      refine ⟨⟨k + 1, by omega, by go_num, bl_drewN HBW.out _⟩, by simp [intOf]; omega⟩
    · obtain rfl : k = nn := by omega
      go_wp2_with fail
      exact post_is HQ ⟨rfl, M3.out.low⟩

end Go.Proofs.YtcgfogdfcdndgaaGreatDoor
