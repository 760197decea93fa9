/- What is asked of a net: Close and Step. -/
import Derived.Test.YtcgfogdfcdndgaaGreatDoorNfSP
set_option linter.unusedVariables false
set_option linter.unusedSimpArgs false
namespace Go.Proofs.YtcgfogdfcdndgaaGreatDoor
open Go.RowKit
attribute [local go_sem] Oper.semAt_some

def closeL (S : Nat) (E : List Ed) (xs : List Nat) : List Nat := riseE S (forE E xs)
def stepL (S : Nat) (E : List Ed) (c : Nat) (xs : List Nat) : List Nat := riseE S (behE E c xs)
theorem rise_congr {S : Nat} {a b : List Nat} (h : ∀ x, x ∈ a ↔ x ∈ b) : riseE S a = riseE S b := by
  unfold riseE
  congr 1
  funext s
  exact decide_eq_decide.2 (h s)
def natsL (l : List Int) : List Nat := l.map Int.toNat
theorem nats_in {S : Nat} {l : List Int} (h : l.all (okSt (S : Int)) = true) : InN S (natsL l) ∧ l = (natsL l).map fun n : Nat => (n : Int) := by
  have hp : ∀ x ∈ l, 0 ≤ x ∧ x < (S : Int) := fun x hx => by
    have := List.all_eq_true.1 h x hx
    simpa [okSt] using this
  refine ⟨fun x hx => ?_, ?_⟩
  · obtain ⟨y, hy, rfl⟩ := List.mem_map.1 hx
    have := hp y hy
    omega
  · unfold natsL
    rw [List.map_map]
    conv => lhs; rw [← List.map_id l]
    exact List.map_congr_left fun x hx => by have := hp x hx; simp; omega
/-- What is asked, and why not. -/
def askE (S : Int) (E : List Ed) (X xs : List Int) (f : Nat → List Nat → List Nat) : List Nat × Nat := if checkN S E X ≠ 0 then ([], checkN S E X) else if xs.all (okSt S) = false then ([], 9) else (f S.toNat (natsL xs), 0)
def GotLE (W : World) (r : List Nat × Nat) (e : Ending) (W' : World) : Prop := ∃ v, e = .returned (.tuple #[v, .int .i64 (r.2 : Int)]) ∧ OwnI W' W.heap.size v r.1 ∧ Below W.heap.size W W'
theorem check_ok {S : Int} {E : List Ed} {X : List Int} (h : checkN S E X = 0) : ∃ n : Nat, S = (n : Int) ∧ 1 ≤ n ∧ n ≤ 2048 ∧ E.length ≤ 8192 ∧ EdN n E ∧ X.length ≤ 64 ∧ X.all (okSt (n : Int)) = true := by
  unfold checkN at h
  split at h
  · cases h
  · split at h
    · cases h
    · rename_i h1 h2
      simp only [not_or, Bool.not_eq_false] at h1 h2
      refine ⟨S.toNat, by omega, by omega, by omega, by omega, ?_, by omega, ?_⟩
      · rw [show S = ((S.toNat : Nat) : Int) by omega] at h2
        exact edN_of h2.2.2
      · rw [show ((S.toNat : Nat) : Int) = S by omega]
        exact h2.2.1

theorem OwnI.rd {w : World} {base : Nat} {A : Option Addr} {n c : Nat} {l : List Nat} (h : OwnI w base (.slice A n c) l) : RdZ w A l := by
  obtain ⟨A', n', c', e, _, _, _, hr⟩ := h.form
  injection e with e1 e2 e3
  subst e1
  exact hr
theorem stays_own {g gm base : Nat} {W : World} {A : Option Addr} {n c : Nat} {xs : List Nat} (ho : OwnI W base (.slice A n c) xs) (hg : g < base) (hgm : gm < base) : Stays g gm W A xs := fun W' hf => (hf.own ho hg hgm (fun i e => own_none i)).rd

end Go.Proofs.YtcgfogdfcdndgaaGreatDoor

/- Close and Step, as they are called. -/
set_option linter.unusedVariables false
set_option linter.unusedSimpArgs false
namespace Go.Proofs.YtcgfogdfcdndgaaGreatDoor
open Go.RowKit
attribute [local go_sem] Oper.semAt_some

theorem load_net {b : Nat} {S : Int} {Ae Ax : Option Addr} {ne ce nx cx : Nat} (w : World) (hw : w.heap[b]? = some (.cells #[.int .i64 S, .slice Ae ne ce, .slice Ax nx cx] 25 (0, 0))) : ∀ t u, [Value.int .i64 S, .slice Ae ne ce, .slice Ax nx cx][t]? = some u → w.cell? ((⟨b, 0, none⟩ : Addr).add t) = some u := fun t u hu => by
  rw [addr_mk, Nat.zero_add, cell_of_row w b t _ _ _ hw]
  simpa using hu
end Go.Proofs.YtcgfogdfcdndgaaGreatDoor

/- Which rule is told: the first one whose end is among states. -/
set_option linter.unusedVariables false
set_option linter.unusedSimpArgs false
namespace Go.Proofs.YtcgfogdfcdndgaaGreatDoor
open Go.RowKit Go.Shelf
attribute [local go_sem] Oper.semAt_some

def isIn (l : List Nat) (x : Int) : Bool := (zl l).contains x
theorem contains_own (base : Nat) (l : List Nat) (v : Value) (hlen : l.length ≤ 100000) (x : Int) (W : World) (ho : OwnI W base v l) :
    Calls Tryz.prog 49 #[v, .int .i64 x] W (fun e W' => e = .returned (.bool (isIn l x)) ∧ W' = W) := by
  rcases ho.2 with ⟨rfl, h0⟩ | ⟨g, cap, cur, rfl, hbase, hgb, h1, h2, h3, h4⟩
  · have hl0 : l = [] := List.length_eq_zero_iff.1 h0
    subst hl0
    exact Tryz.slices_Contains_int_empty none 0 x W
  · have hlz : (zl l).length = l.length := by unfold zl; rw [List.length_map]
    have h := Tryz.slices_Contains_int g 0 l.length cap (zl l) x W (by rw [hlz]; exact Nat.le_refl _) (by omega) (fun j hj => by
      rw [hlz] at hj
      have hc := ho.rd j hj
      obtain ⟨ad, e, hc⟩ := hc
      obtain rfl := Option.some.inj e
      rw [addr_mk] at hc
      rw [hc]
      unfold zl
      simp [List.getD, hj])
    rw [show (zl l).take l.length = zl l from List.take_of_length_le (by rw [hlz]; exact Nat.le_refl _)] at h
    exact h
set_option maxRecDepth 20000 in
theorem run1_any (base : Nat) (l : List Nat) (v : Value) (hlen : l.length ≤ 100000) (x : Int) (b : Nat) (W : World) (ho : OwnI W base v l) (hb : W.heap[b]? = some (.cells #[v] 23 (0, 0))) :
    Calls Tryz.prog 48 #[.int .i64 x, .pointer (some ⟨b, 0, none⟩)] W (GotBl W (isIn l x)) := by
  have HC := Lib.hid (contains_own base l v hlen x W ho)
  obtain ⟨A, n, c, rfl, _, _, _, _⟩ := ho.form
  have c0 := cell_of_row W b 0 _ _ _ hb
  generalize hQ : GotBl W (isIn l x) = Q
  have HQ := Lib.hid hQ
  clear hQ ho hb
  go_enter Tryz.func48, Tryz.ntmps48
  go_wp2_with fail
  refine HC.out.mono ?_
  rintro e w' ⟨rfl, rfl⟩
  clear HC c0
  go_wp2_with fail
  exact post_is HQ ⟨rfl, Below.refl _ _⟩
/-- The first rule whose end is among states. -/
def idxE (l : List Nat) : List Int → Nat → Int
  | [], _ => -1
  | x :: X, k => if isIn l x = true then (k : Int) else idxE l X (k + 1)
theorem idx_at (l : List Nat) : ∀ (X : List Int) (k j : Nat) (hj : j < X.length), (∀ i (h : i < X.length), i < j → isIn l X[i] = false) → isIn l X[j] = true → idxE l X k = ((k + j : Nat) : Int)
  | x :: X, k, 0, _, _, h2 => by rw [idxE, if_pos (show isIn l x = true from h2)]; simp
  | x :: X, k, j + 1, hj, h1, h2 => by
    rw [idxE, if_neg (by rw [show isIn l x = false from h1 0 (by simp) (by omega)]; simp)]
    rw [idx_at l X (k + 1) j (by simpa using hj) (fun i h hi => h1 (i + 1) (by simpa using h) (by omega)) h2]
    congr 1
    omega
theorem idx_none (l : List Nat) : ∀ (X : List Int) (k : Nat), (∀ i (h : i < X.length), isIn l X[i] = false) → idxE l X k = -1
  | [], _, _ => rfl
  | x :: X, k, h1 => by
    rw [idxE, if_neg (by rw [show isIn l x = false from h1 0 (by simp)]; simp)]
    exact idx_none l X (k + 1) fun i h => h1 (i + 1) (by simpa using h)
def GotIn (W : World) (z : Int) (e : Ending) (W' : World) : Prop := e = .returned (.int .i64 z) ∧ Below W.heap.size W W'
set_option maxRecDepth 100000 in
set_option maxHeartbeats 2000000 in
theorem ixrn_any (X : List Int) (A : Option Addr) (n c : Nat) (hn : X.length = n) (hn2 : n ≤ 140737488355328) (base : Nat) (l : List Nat) (v : Value) (hlen : l.length ≤ 100000) (b : Nat) (W : World) (ho : OwnI W base v l) (hb : W.heap[b]? = some (.cells #[v] 23 (0, 0))) (hr : RdW W A X) :
    Calls Tryz.prog 47 #[.slice A n c, .func (.func 48) #[] #[.pointer (some ⟨b, 0, none⟩)]] W (GotIn W (idxE l X 0)) := by
  generalize hQ : GotIn W (idxE l X 0) = Q
  have HQ := Lib.hid hQ
  have HB := Lib.hid hb
  have HR := Lib.hid hr
  have HN := Lib.hid hn
  have HO := Lib.hid ho
  clear hQ hb hr hn ho
  go_enter Tryz.func47, Tryz.ntmps47
  go_wp2_with fail
  go_loopw [8] (fun vi wr => ∃ k : Nat, k ≤ n ∧ vi = .int .i64 (k : Int) ∧ Hid (∀ i (h : i < X.length), i < k → isIn l X[i] = false) ∧ Hid (Below W.heap.size W wr)) (fun vi _ => n - (intOf vi).toNat)
  case atStart => exact ⟨0, Nat.zero_le _, rfl, fun i h hi => absurd hi (by omega), Below.refl _ _⟩
  case round =>
    obtain ⟨k, hk, rfl, HA, HBW⟩ := hrel
    by_cases hlt : k < n
    · have hkl : k < X.length := by rw [HN.out]; exact hlt
      obtain ⟨ad, hA, hc1⟩ := (HR.out.below HBW.out) k hkl
      subst hA
      obtain ⟨q, hq⟩ : ∃ q, isIn l X[k] = q := ⟨_, rfl⟩
      have HIT := Lib.hid (show q = true → idxE l X 0 = (k : Int) from fun h => by
        have := idx_at l X 0 k hkl HA.out (by rw [hq, h])
        rwa [Nat.zero_add] at this)
      have HMISS := Lib.hid (show q = false → ∀ i (h : i < X.length), i < k + 1 → isIn l X[i] = false from fun h i hi hik => by
        by_cases e : i = k
        · subst e; rw [hq, h]
        · exact HA.out i hi (by omega))
      generalize X[k] = x at *
      have HCON := Lib.hid (run1_any base l v hlen x b wr (HO.out.below HBW.out) ((HBW.out.block b (Array.getElem?_eq_some_iff.1 HB.out).1).trans HB.out))
      clear hkl
      go_wp2_with fail
      refine HCON.out.mono ?_
      rintro e w2 ⟨rfl, hb2⟩
      have HB2 := Lib.hid (bl_trans HBW.out hb2)
      clear hb2 HCON HBW hc1
      rw [hq]
      clear hq
      cases q with
      | false =>
        go_wp2_with fail
        exact ⟨⟨k + 1, by omega, by go_num, HMISS.out trivial, HB2.out⟩, by simp [intOf]; omega⟩
      | true =>
        go_wp2_with fail
        refine post_is HQ ⟨?_, HB2.out⟩
        rw [HIT.out trivial]
        rfl
    · obtain rfl : k = n := by omega
      have HNO := Lib.hid (idx_none l X 0 (fun i h => HA.out i h (by rw [← HN.out]; exact h)))
      go_wp2_with fail
      refine post_is HQ ⟨?_, HBW.out⟩
      rw [HNO.out]
      rfl

end Go.Proofs.YtcgfogdfcdndgaaGreatDoor

/- Run, as it is called. -/
set_option linter.unusedVariables false
set_option linter.unusedSimpArgs false
namespace Go.Proofs.YtcgfogdfcdndgaaGreatDoor
open Go.RowKit
attribute [local go_sem] Oper.semAt_some

/-- Where a net is behind bytes. -/
def goneE (E : List Ed) (l : List Nat) (ts : List UInt8) : List Nat := ts.foldl (fun l c => forE E (behE E c.toNat l)) l
theorem gone_next (E : List Ed) (l : List Nat) (ts : List UInt8) (k : Nat) (hk : k < ts.length) : goneE E l (ts.take (k + 1)) = forE E (behE E ts[k].toNat (goneE E l (ts.take k))) := by
  unfold goneE
  rw [List.take_succ_eq_append_getElem hk, List.foldl_append]
  rfl
def runE (S : Int) (E : List Ed) (X : List Int) (ts : List UInt8) : Int × Nat :=
  if checkN S E X ≠ 0 then (0, checkN S E X) else if 8192 < ts.length then (0, 5) else (idxE (goneE E (forE E [0]) ts) X 0, 0)
def GotRn (W : World) (r : Int × Nat) (e : Ending) (W' : World) : Prop := e = .returned (.tuple #[.int .i64 r.1, .int .i64 (r.2 : Int)]) ∧ Below W.heap.size W W'
section
variable {W0 W W' : World} {n1 g gm gb gp S : Nat} {Ae : Option Addr} {ne ce : Nat} {E : List Ed} {Xv : Value} {fb fp : Nat → Nat} {rd : Nat} {l : List Nat} {v : Value}
theorem Now.low (h : Now W0 n1 g gm gb gp S Ae ne ce Xv fb fp rd v l W) : Below W0.heap.size W0 W := by
  obtain ⟨_, f, h⟩ := h
  exact h.below
theorem Now.kept (h : Now W0 n1 g gm gb gp S Ae ne ce Xv fb fp rd v l W) (st : Sta W0 n1 g gm gb gp S Ae ne ce E fb fp) {b : Nat} (hg : W.grownBy W' (some b)) (hb : n1 ≤ b) (hv : v.ownBlock ≠ some b) : Now W0 n1 g gm gb gp S Ae ne ce Xv fb fp rd v l W' := by
  obtain ⟨h1, f, h2⟩ := h
  exact ⟨World.ownsRow.kept h1 hg (by cases hq : v.ownBlock with | none => exact Or.inl rfl | some i => exact Or.inr fun e => hv (hq.trans e)), f, h2.grown st hg (fun i e => by cases e; exact hb)⟩
end
set_option maxRecDepth 100000 in
set_option maxHeartbeats 8000000 in
theorem run_any (S : Int) (E : List Ed) (X : List Int) (ts : List UInt8) (Ae Ax At : Option Addr) (ne ce nx cx n c : Nat) (hne : E.length = ne) (hnx : X.length = nx) (hn : ts.length = n) (hce : ne ≤ ce) (hcx : nx ≤ cx) (hm1 : ne ≤ 140737488355328) (hm2 : nx ≤ 140737488355328) (hm3 : n ≤ 140737488355328) (W : World) (hr : RdE W Ae E) (hx : RdW W Ax X) (hy : Rd W At ts) :
    Calls Tryz.prog 26 #[.agg #[.int .i64 S, .slice Ae ne ce, .slice Ax nx cx], .slice At n c] W (GotRn W (runE S E X ts)) := by
  generalize hQ : GotRn W (runE S E X ts) = Q
  have HQ := Lib.hid hQ
  have b0 := bl_alloc (Below.refl W.heap.size W) (.cells #[.int .i64 S, .slice Ae ne ce, .slice Ax nx cx] 25)
  have k0 := heap_alloc_new W (.cells #[.int .i64 S, .slice Ae ne ce, .slice Ax nx cx] 25)
  have hld : ∀ (w : World), w.heap[W.heap.size]? = some (.cells #[.int .i64 S, .slice Ae ne ce, .slice Ax nx cx] 25 (0, 0)) → ∀ t u, [Value.int .i64 S, .slice Ae ne ce, .slice Ax nx cx][t]? = some u → w.cell? ((⟨W.heap.size, 0, none⟩ : Addr).add t) = some u := fun w hw t u hu => by
    rw [addr_mk, Nat.zero_add, cell_of_row w W.heap.size t _ _ _ hw]
    simpa using hu
  have HLD := Lib.hid hld
  have B0 := Lib.hid b0
  have K0 := Lib.hid k0
  have HE := Lib.hid hr
  have HX := Lib.hid hx
  have HY := Lib.hid hy
  have HNE := Lib.hid hne
  have HNX := Lib.hid hnx
  have HNN := Lib.hid hn
  have L0 := Lib.hid (hld _ k0)
  clear hQ b0 k0 hld hr hx hy hne hnx hn
  go_enter Tryz.func26, Tryz.ntmps26
  go_wp2_with (refine wpList_load_part 25 3 _ rfl rfl ⟨W.heap.size, 0, none⟩ rfl [.int .i64 S, .slice Ae ne ce, .slice Ax nx cx] (agg_net _) (sz_net _) rfl L0.out ?_)
  refine (ncheck_any S E X Ae Ax ne ce nx cx HNE.out HNX.out hce hcx hm1 hm2 _ (HE.out.below B0.out) (HX.out.below B0.out)).mono ?_
  rintro e w2 ⟨rfl, hb2⟩
  have B2 := Lib.hid (bl_trans B0.out hb2)
  have K2 := Lib.hid ((hb2.block W.heap.size (by simp)).trans K0.out)
  have L2 := Lib.hid (HLD.out w2 K2.out)
  clear hb2 K0 L0 B0
  by_cases hk : ¬ checkN S E X = 0
  · have HR := Lib.hid (show runE S E X ts = (0, checkN S E X) by rw [runE, if_pos hk])
    generalize checkN S E X = k at *
    have h' : ((k : Int) == 0) = false := by simp; omega
    go_wp2_with fail
    refine post_is HQ ?_
    rw [HR.out]
    exact ⟨rfl, B2.out⟩
  rw [Decidable.not_not] at hk
  have HK := Lib.hid hk
  obtain ⟨s, rfl, s1, s2, s3, s4, s5, s6⟩ := check_ok hk
  rw [hk]
  clear hk
  by_cases hb : 8192 < n
  · have HR := Lib.hid (show runE (s : Int) E X ts = (0, 5) by rw [runE, if_neg (by rw [HK.out]; simp), if_pos (by rw [HNN.out]; exact hb)])
    go_wp2_with fail
    refine post_is HQ ?_
    rw [HR.out]
    exact ⟨rfl, B2.out⟩
  have HR := Lib.hid (show runE (s : Int) E X ts = (idxE (goneE E (forE E [0]) ts) X 0, 0) by rw [runE, if_neg (by rw [HK.out]; simp), if_neg (by rw [HNN.out]; exact hb)])
  go_wp2_with (refine wpList_load_part 25 3 _ rfl rfl ⟨W.heap.size, 0, none⟩ rfl [.int .i64 (s : Int), .slice Ae ne ce, .slice Ax nx cx] (agg_net _) (sz_net _) rfl L2.out ?_)
  refine (walk_any s Ae Ax ne ce nx cx E s1 s2 HNE.out (by have := HNE.out; omega) hce s4 w2 (HE.out.below B2.out)).mono ?_
  rintro e w3 ⟨n1, g, gm, gb, gp, fb, fp, rfl, st, wk3⟩
  have ST := Lib.hid st
  have WK := Lib.hid wk3
  clear st wk3 L2
  have HC4 := Lib.hid (for_any ST.out 0 (by omega) (List.range s) (some ⟨w3.heap.size, 0, none⟩) 1 1 [0] rfl (by omega) (fun x hx => by simp at hx; omega) (w3.alloc (.cells #[.int .i64 0] 3)) ⟨_, WK.out.then ST.out (bl_alloc (Below.refl _ _) _)⟩ (fun W' hf k hk => by
    have hk0 : k = 0 := by simp at hk; omega
    subst hk0
    refine ⟨_, rfl, ?_⟩
    have hkp := hf.keep w3.heap.size (by simp) (by have h1 := ST.out.ug; have h2 := WK.out.sz; omega) (by have h1 := ST.out.um; have h2 := WK.out.sz; omega) (own_none _)
    exact cell_of_row W' w3.heap.size 0 _ _ _ (hkp.trans (heap_alloc_new w3 _))))
  go_wp2_with fail
  refine HC4.out.mono ?_
  rintro e w4 ⟨v4, rfl, nw4, fr4, new4⟩
  have HV4 := Lib.hid (show ∀ i, v4.ownBlock = some i → i < w4.heap.size from fun i e => (World.ownsRow.lt nw4.1 i e).2)
  have NW4 := Lib.hid nw4
  have HN1 := Lib.hid (show n1 ≤ w4.heap.size from by obtain ⟨_, f, h⟩ := nw4; exact h.sz)
  obtain ⟨A4, n4, c4, rfl, _, _, _, _⟩ := nw4.1.form
  clear HC4 nw4 fr4 new4 WK
  go_wp2_with fail
  have NW5 := Lib.hid (NW4.out.then ST.out (bl_alloc (Below.refl _ w4) (.cells #[.slice A4 n4 c4] 23)))
  have K5 := Lib.hid (heap_alloc_new w4 (.cells #[.slice A4 n4 c4] 23))
  have V5 := Lib.hid (show (Value.slice A4 n4 c4).ownBlock ≠ some w4.heap.size from fun e => absurd (HV4.out _ e) (Nat.lt_irrefl _))
  generalize w4.alloc (.cells #[.slice A4 n4 c4] 23) = w5 at *
  have HB8 := Lib.hid (show n1 ≤ w4.heap.size from HN1.out)
  generalize w4.heap.size = b8 at *
  clear HV4 NW4
  go_loopw [26] (fun vi wr => ∃ (k : Nat) (A' : Option Addr) (n' c' : Nat), k ≤ n ∧ vi = .int .i64 (k : Int) ∧ Hid (Now w2 n1 g gm gb gp s Ae ne ce (.slice Ax nx cx) fb fp (1 + 2 * k) (.slice A' n' c') (goneE E (forE E [0]) (ts.take k)) wr) ∧ Hid (wr.heap[b8]? = some (.cells #[.slice A' n' c'] 23 (0, 0))) ∧ Hid ((Value.slice A' n' c').ownBlock ≠ some b8)) (fun vi _ => n - (intOf vi).toNat)
  case atStart => exact ⟨0, _, _, _, Nat.zero_le _, rfl, NW5, K5, V5⟩
  case round =>
    obtain ⟨k, A', n', c', hk, rfl, NWr, Kr, Vr⟩ := hrel
    clear NW5 K5 V5
    have BR := Lib.hid (bl_trans B2.out NWr.out.low)
    by_cases hlt : k < n
    · have hkt : k < ts.length := by rw [HNN.out]; exact hlt
      obtain ⟨ad, hA, hc1⟩ := (HY.out.below BR.out).cell hkt
      subst hA
      have HGN := Lib.hid (gone_next E (forE E [0]) ts k hkt)
      have hch : ts[k].toNat < 256 := ts[k].toNat_lt
      generalize ts[k].toNat = ch at *
      obtain ⟨hlr, hir⟩ := NWr.out.len ST.out
      obtain ⟨A1, n2, c2, e1, HLr, _, hcm, _⟩ := NWr.out.1.form
      injection e1 with e1 e2 e3
      subst e1 e2 e3
      have c8 := cell_of_row wr b8 0 _ _ _ Kr.out
      have HB := Lib.hid (behind_any ST.out (1 + 2 * k) (by omega) ch hch _ A' n' c' _ HLr.out (by have := HLr.out; omega) hir wr NWr.out.2 (stays_own NWr.out.1 ST.out.ug ST.out.um))
      have F8 := Lib.hid (show b8 < wr.heap.size from (Array.getElem?_eq_some_iff.1 Kr.out).1)
      have G8 := Lib.hid (show b8 ≠ g ∧ b8 ≠ gm from by have h1 := ST.out.ug; have h2 := ST.out.um; have h3 := HB8.out; omega)
      clear hlr hir hcm BR
      go_wp2_with fail
      refine HB.out.mono ?_
      rintro e w6 ⟨v6, rfl, nw6, fr6, new6⟩
      obtain ⟨hl6, hi6⟩ := nw6.len ST.out
      obtain ⟨A6, n6, c6, rfl, HL6, _, hcm6, _⟩ := nw6.1.form
      have HF := Lib.hid (for_any ST.out (1 + 2 * k + 1) (by omega) _ A6 n6 c6 _ HL6.out (by have := HL6.out; omega) hi6 w6 nw6.2 (stays_own nw6.1 ST.out.ug ST.out.um))
      have K6 := Lib.hid ((fr6.keep b8 F8.out G8.out.1 G8.out.2 (own_none _)).trans Kr.out)
      have F6 := Lib.hid (show b8 < w6.heap.size from Nat.lt_of_lt_of_le F8.out fr6.size)
      clear HB nw6 fr6 new6 hl6 hi6 hcm6 c8 Kr
      go_wp2_with fail
      refine HF.out.mono ?_
      rintro e w7 ⟨v7, rfl, nw7, fr7, new7⟩
      have K7 := Lib.hid ((fr7.keep b8 F6.out G8.out.1 G8.out.2 (own_none _)).trans K6.out)
      have V7 := Lib.hid (show v7.ownBlock ≠ some b8 from fun e => by rcases new7 _ e with h | h; exact own_none _ h; exact absurd F6.out (by omega))
      obtain ⟨A7, n7, c7, rfl, _, _, _, _⟩ := nw7.1.form
      have NW7 := Lib.hid nw7
      have c8 := cell_of_row w7 b8 0 _ _ _ K7.out
      have z8 := frozen_of_row w7 b8 0 _ _ K7.out
      clear HF nw7 fr7 new7 K6 F6 F8
      go_wp2_with fail
      have hg := grown_set w7 b8 0 (.slice A7 n7 c7)
      refine ⟨⟨k + 1, A7, n7, c7, by omega, by go_num, ?_, heap_setCell_same w7 b8 0 _ _ _ K7.out, V7.out⟩, by simp [intOf]; omega⟩
      have h := NW7.out.kept ST.out hg HB8.out V7.out
      rw [show 1 + 2 * k + 1 + 1 = 1 + 2 * (k + 1) by omega, ← HGN.out] at h
      exact h
    · obtain rfl : k = n := by omega
      have hk2 := (NWr.out.low.block W.heap.size (Array.getElem?_eq_some_iff.1 K2.out).1).trans K2.out
      have c2 := cell_of_row wr W.heap.size 2 _ _ _ hk2
      have BR := Lib.hid (bl_trans B2.out NWr.out.low)
      obtain ⟨hlr, hir⟩ := NWr.out.len ST.out
      have HGO := Lib.hid (show goneE E (forE E [0]) (ts.take k) = goneE E (forE E [0]) ts by rw [List.take_of_length_le (by rw [HNN.out]; exact Nat.le_refl _)])
      have HI := Lib.hid (ixrn_any X Ax nx cx HNX.out hm2 n1 _ _ (Nat.le_trans hlr (by omega)) b8 wr NWr.out.1 Kr.out (HX.out.below BR.out))
      clear hlr hir hk2 NWr Kr
      go_wp2_with fail
      refine HI.out.mono ?_
      rintro e w9 ⟨rfl, hb9⟩
      have B9 := Lib.hid (bl_trans BR.out hb9)
      clear hb9 HI BR c2
      go_wp2_with fail
      refine post_is HQ ?_
      rw [HR.out, ← HGO.out]
      exact ⟨rfl, B9.out⟩

end Go.Proofs.YtcgfogdfcdndgaaGreatDoor
