/- The law's runs. -/
import Derived.Test.YtjibfffefppniaaGreatNfXM
import Derived.Laws.IdiomStrings
import Derived.BigQuiet
set_option linter.unusedVariables false
set_option linter.unusedSimpArgs false
namespace Go.Proofs.YtjibfffefppniaaGreat
open Go.RowKit
attribute [local go_sem] Oper.semAt_some

theorem rd_row_of2 (w : World) (l : List UInt8) (cap : Nat) (fr : Nat × Nat) (hc : l.length ≤ cap) : Rd (w.drew.alloc (.cells (bytesRow ⟨l.toArray⟩ cap) 5 fr)) (some ⟨w.heap.size, 0, none⟩) l := fun h0 => by
  refine ⟨_, rfl, fun j hj => ?_⟩
  rw [addr_mk, Nat.zero_add]
  show (w.drew.alloc (.cells (bytesRow ⟨l.toArray⟩ cap) 5 fr)).cell? ⟨w.drew.heap.size, j, none⟩ = _
  rw [cell_of_row _ _ j _ 5 fr (heap_alloc_new w.drew _)]
  unfold bytesRow
  rw [Array.getElem?_append_left (by simp; omega)]
  simp [hj, bv]
/-- '[]byte(s)'. -/
theorem bytes_of2 (w : World) (l : List UInt8) (hl : l.length ≤ maxLen) : ∃ cap w', l.length ≤ cap ∧ cap ≤ 9223372036854775807 ∧ Below w.heap.size w w' ∧ Rd w' (some ⟨w.heap.size, 0, none⟩) l ∧
    (convert 9 86 (.string ⟨l.toArray⟩)).run Tryz.prog w = .ok (.slice (some ⟨w.heap.size, 0, none⟩) l.length cap) w' := by
  have h := run_bytes_of_string (P := Tryz.prog) w 9 86 5 ⟨l.toArray⟩ Tryz.underlying9 Tryz.underlying86 Tryz.underlying5
  have hs : (⟨l.toArray⟩ : ByteArray).size = l.length := by show l.toArray.size = _; simp
  rw [hs] at h
  have g1 := grownCap_ge w l.length 0 5
  have g2 := grownCap_le_maxLen w l.length 0 5 hl
  refine ⟨_, _, g1, by simpa only [maxLen] using g2, bl_alloc (Below.drew (Below.refl _ _)) _, rd_row_of2 w l _ _ g1, h⟩
set_option maxRecDepth 20000 in
set_option maxHeartbeats 1000000 in
theorem runs_any (S : Int) (E : List Ed) (X : List Int) (t : List UInt8) (want : Int) (Ae Ax : Option Addr) (ne ce nx cx : Nat) (hne : E.length = ne) (hnx : X.length = nx) (ht : t.length ≤ 100000) (hce : ne ≤ ce) (hcx : nx ≤ cx) (hm1 : ne ≤ 140737488355328) (hm2 : nx ≤ 140737488355328) (W : World) (hr : RdE W Ae E) (hx : RdW W Ax X) :
    Calls Tryz.prog 28 #[.agg #[.int .i64 S, .slice Ae ne ce, .slice Ax nx cx], .string ⟨t.toArray⟩, .int .i64 want] W (GotBl W (decide ((runE S E X t).2 = 0) && decide ((runE S E X t).1 = want))) := by
  have b0 := bl_alloc (Below.refl W.heap.size W) (.cells #[.int .i64 S, .slice Ae ne ce, .slice Ax nx cx] 29)
  have k0 := heap_alloc_new W (.cells #[.int .i64 S, .slice Ae ne ce, .slice Ax nx cx] 29)
  obtain ⟨cap, w3, hc1, hc2, hb3, hrt, hcv⟩ := bytes_of2 (W.alloc (.cells #[.int .i64 S, .slice Ae ne ce, .slice Ax nx cx] 29)) t (by unfold maxLen; omega)
  have HC := Lib.hid (run_any S E X t Ae Ax (some ⟨(W.alloc (.cells #[.int .i64 S, .slice Ae ne ce, .slice Ax nx cx] 29)).heap.size, 0, none⟩) ne ce nx cx t.length cap hne hnx rfl hce hcx hm1 hm2 (by omega) w3 ((hr.below b0).below hb3) ((hx.below b0).below hb3) hrt)
  have L0 := Lib.hid (load_net _ k0)
  have B3 := Lib.hid (bl_trans b0 hb3)
  generalize hQ : GotBl W (decide ((runE S E X t).2 = 0) && decide ((runE S E X t).1 = want)) = Q
  have HQ := Lib.hid hQ
  generalize runE S E X t = r at *
  obtain ⟨z, k⟩ := r
  clear hQ hr hx hne hnx b0 hb3 hrt k0
  go_enter Tryz.func28, Tryz.ntmps28
  go_upto_region 1 with fail
  generalize W.alloc (.cells #[.int .i64 S, .slice Ae ne ce, .slice Ax nx cx] 29) = w1 at *
  go_wp2_with (refine wpList_load_part 29 3 _ rfl rfl ⟨W.heap.size, 0, none⟩ rfl [.int .i64 S, .slice Ae ne ce, .slice Ax nx cx] (agg_net _) (sz_net _) rfl L0.out ?_)
  refine HC.out.mono ?_
  rintro e w4 ⟨rfl, hb4⟩
  have B4 := Lib.hid (bl_trans B3.out hb4)
  clear hb4 HC B3 hcv L0
  dsimp only at HQ ⊢
  by_cases hk : k = 0
  · subst hk
    by_cases hz : z = want
    · have hz2 : (z == want) = true := by simp [hz]
      have HD := Lib.hid (show decide (z = want) = true by simp [hz])
      clear hz
      go_wp2_with fail
      refine post_is HQ ⟨?_, B4.out⟩
      rw [HD.out]
      rfl
    · have hz2 : (z == want) = false := by simp [hz]
      have HD := Lib.hid (show decide (z = want) = false by simp [hz])
      clear hz
      go_wp2_with fail
      refine post_is HQ ⟨?_, B4.out⟩
      rw [HD.out]
      rfl
  · have hk2 : ((k : Int) == 0) = false := by simp; omega
    have HD := Lib.hid (show decide (k = 0) = false by simp [hk])
    clear hk
    go_wp2_with fail
    refine post_is HQ ⟨?_, B4.out⟩
    rw [HD.out]
    rfl

end Go.Proofs.YtjibfffefppniaaGreat

/- The law's of: written patterns. -/
set_option linter.unusedVariables false
set_option linter.unusedSimpArgs false
namespace Go.Proofs.YtjibfffefppniaaGreat
open Go.RowKit
attribute [local go_sem] Oper.semAt_some

theorem cellsN_len (l : List RN) : (cellsN l).length = l.length * 7 := by
  induction l with
  | nil => rfl
  | cons x l ih => rw [show cellsN (x :: l) = cellsR x ++ cellsN l from rfl, List.length_append, ih]; simp [cellsR]; omega
theorem cellsN_get : ∀ (l : List RN) (i : Nat) (h : i < l.length) (j : Nat) (u : Value), (cellsR l[i])[j]? = some u → (cellsN l)[i * 7 + j]? = some u
  | x :: l, 0, h, j, u, hu => by
    rw [show cellsN (x :: l) = cellsR x ++ cellsN l from rfl]
    have hj : j < (cellsR x).length := (List.getElem?_eq_some_iff.1 hu).1
    rw [Nat.zero_mul, Nat.zero_add, List.getElem?_append_left hj]
    exact hu
  | x :: l, i + 1, h, j, u, hu => by
    rw [show cellsN (x :: l) = cellsR x ++ cellsN l from rfl]
    have h7 : (cellsR x).length = 7 := rfl
    rw [List.getElem?_append_right (by rw [h7]; omega), h7, show (i + 1) * 7 + j - 7 = i * 7 + j by omega]
    exact cellsN_get l i (by simpa using h) j u hu
/-- Nodes that a call made, as a slice that reads. -/
theorem OwnR.shape {w : World} {base : Nat} {v : Value} {l : List RN} (h : OwnR w base v l) :
    ∃ A n c, v = .slice A n c ∧ Hid (l.length = n) ∧ n ≤ c ∧ c ≤ maxLen ∧ RdR w A l := by
  rcases h.2 with ⟨rfl, hn⟩ | ⟨g, cap, cur, rfl, _, hg, hnc, hcm, hcs, ht⟩
  · exact ⟨none, 0, 0, rfl, hn, Nat.le_refl _, by simp [maxLen], fun i hi => by omega⟩
  · refine ⟨some ⟨g, 0, none⟩, _, cap, rfl, rfl, hnc, hcm, fun i hi => ⟨_, rfl, fun j u hu => ?_⟩⟩
    have := World.ownsRow.cells h (g := g) rfl (i * 7 + j) u (cellsN_get l i hi j u hu)
    rw [addr_mk] at this ⊢
    rw [addr_mk]
    simpa [Nat.add_assoc] using this
theorem OwnR.later {w w' : World} {base : Nat} {v : Value} {l : List RN} (h : OwnR w base v l) (hb : Below w.heap.size w w') : OwnR w' base v l :=
  World.ownsRow.kept h (grown_of_below hb none) (by cases v.ownBlock <;> simp)
theorem OwnR.from {w : World} {base base' : Nat} {v : Value} {l : List RN} (h : OwnR w base v l) (hb : base' ≤ base) : OwnR w base' v l := by
  refine ⟨h.1, ?_⟩
  rcases h.2 with h | ⟨g, cap, cur, e, hg, r⟩
  · exact Or.inl h
  · exact Or.inr ⟨g, cap, cur, e, Nat.le_trans hb hg, r⟩
theorem OwnR.nil (w : World) (base : Nat) : OwnR w base (.slice none 0 0) [] := World.ownsRow_nil _ _ _ _
theorem info_rex : (Tryz.prog.info? 25).map (fun i => (i.zero, i.size, i.bytes)) = some (some (.agg #[.slice none 0 0]), 1, 24) := by kernel_rfl
theorem rows_ne {w : World} {base base' : Nat} {v u : Value} {e1 e2 : TypeId} {s1 s2 n1 n2 : Nat} {x1 x2 : List Value} (he : e1 ≠ e2) (h : w.ownsRow base e1 s1 v n1 x1) (h' : w.ownsRow base' e2 s2 u n2 x2) : ∀ i, v.ownBlock = some i → u.ownBlock ≠ some i := fun i e e' => by
  rcases h.2 with ⟨rfl, _⟩ | ⟨g, cap, cur, rfl, _, hg, _⟩
  · simp [Value.ownBlock] at e
  · obtain rfl : g = i := Option.some.inj e
    rcases h'.2 with ⟨rfl, _⟩ | ⟨g', cap', cur', rfl, _, hg', _⟩
    · simp [Value.ownBlock] at e'
    · obtain rfl : g' = g := Option.some.inj e'
      rw [hg] at hg'
      have := Option.some.inj hg'
      injection this with _ h1 _
      exact he h1
/-- Patterns that a call made. -/
def OwnX (w : World) (base : Nat) (v : Value) (Ls : List (List RN)) : Prop := ∃ vals, w.ownsRow base 25 1 v Ls.length vals ∧ vals.length = Ls.length ∧ ∀ i (h : i < Ls.length), ∃ B m d, vals[i]? = some (.slice B m d) ∧ Ls[i].length = m ∧ m ≤ d ∧ OwnR w base (.slice B m d) Ls[i]
theorem OwnX.nil (w : World) (base : Nat) : OwnX w base (.slice none 0 0) [] := ⟨[], World.ownsRow_nil _ _ _ _, rfl, fun i h => absurd h (by simp)⟩
theorem OwnX.below {w w' : World} {base : Nat} {v : Value} {Ls : List (List RN)} (h : OwnX w base v Ls) (hb : Below w.heap.size w w') : OwnX w' base v Ls := by
  obtain ⟨vals, h1, h2, h3⟩ := h
  refine ⟨vals, World.ownsRow.kept h1 (grown_of_below hb none) (by cases v.ownBlock <;> simp), h2, fun i hi => ?_⟩
  obtain ⟨B, m, d, y1, y2, y3, y4⟩ := h3 i hi
  exact ⟨B, m, d, y1, y2, y3, y4.later hb⟩
theorem OwnX.rdx {w : World} {base : Nat} {v : Value} {Ls : List (List RN)} (h : OwnX w base v Ls) : ∃ B m d, v = .slice B m d ∧ Ls.length = m ∧ m ≤ d ∧ RdX w B Ls := by
  obtain ⟨vals, h1, h2, h3⟩ := h
  rcases h1.2 with ⟨e, hn⟩ | ⟨g, cap, cur, e, hbs, hg, hnc, hcm, r⟩
  · exact ⟨none, 0, 0, e, hn, Nat.le_refl _, fun i hi => by omega⟩
  · refine ⟨some ⟨g, 0, none⟩, _, cap, e, rfl, hnc, fun i hi => ?_⟩
    obtain ⟨B, m, d, y1, y2, y3, y4⟩ := h3 i hi
    obtain ⟨B', m', d', e2, _, _, _, hrd⟩ := y4.shape
    injection e2 with e2 _ _
    subst e2
    exact ⟨_, B, m, d, rfl, World.ownsRow.cells h1 (g := g) (by rw [e]; rfl) i _ y1, y2, y3, hrd⟩
def GotRx (W : World) (Ls : List (List RN)) (e : Ending) (W' : World) : Prop := ∃ B m d, e = .returned (.slice B m d) ∧ Ls.length = m ∧ m ≤ d ∧ RdX W' B Ls ∧ Below W.heap.size W W'
set_option maxRecDepth 100000 in
set_option maxHeartbeats 4000000 in
theorem of_texts (Ss : List (List UInt8)) (Ls : List (List RN)) (A : Option Addr) (n c : Nat) (hn : Ss.length = n) (hl : Ls.length = n) (hn2 : n ≤ 1000) (W : World) (hr : ∀ i (h : i < Ss.length), ∃ ad, A = some ad ∧ W.cell? (ad.add i) = some (.string ⟨Ss[i].toArray⟩))
    (hp : ∀ i (h : i < Ss.length) (h' : i < Ls.length) (w : World), Calls Tryz.prog 45 #[.string ⟨Ss[i].toArray⟩] w (GotP w (Ls[i], 0, 0))) :
    Calls Tryz.prog 27 #[.slice A n c] W (GotRx W Ls) := by
  generalize hQ : GotRx W Ls = Q
  have HQ := Lib.hid hQ
  have HR := Lib.hid hr
  have HP := Lib.hid hp
  have HN := Lib.hid hn
  have HL := Lib.hid hl
  clear hQ hr hp hn hl
  go_enter Tryz.func27, Tryz.ntmps27
  go_wp2_with fail
  go_loopw [3, 4] (fun v3 vi wr => ∃ (k : Nat) (A1 : Option Addr) (n1 c1 : Nat), k ≤ n ∧ v3 = .slice A1 n1 c1 ∧ vi = .int .i64 (k : Int) ∧ Hid (OwnX wr W.heap.size (.slice A1 n1 c1) (Ls.take k)) ∧ Hid (Below W.heap.size W wr)) (fun _ vi _ => n - (intOf vi).toNat)
  case atStart => exact ⟨0, none, 0, 0, Nat.zero_le _, rfl, rfl, OwnX.nil _ _, Below.refl _ _⟩
  case round =>
    obtain ⟨k, A1, n1, c1, hk, rfl, rfl, OX, BW⟩ := hrel
    by_cases hlt : k < n
    · have h1 : k < Ss.length := by rw [HN.out]; exact hlt
      have h2 : k < Ls.length := by rw [HL.out]; exact hlt
      obtain ⟨ad, hA, hc⟩ := HR.out k h1
      subst hA
      have hc2 : wr.cell? (ad.add k) = some (.string ⟨Ss[k].toArray⟩) := (BW.out.cell (World.block_lt_of_cell? W _ hc)).trans hc
      have HPK := Lib.hid (HP.out k h1 h2 wr)
      have HTK := Lib.hid (show Ls.take (k + 1) = Ls.take k ++ [Ls[k]] from List.take_succ_eq_append_getElem h2)
      have HTL := Lib.hid (show (Ls.take k).length = k from by rw [List.length_take]; omega)
      generalize Ss[k] = s at *
      generalize Ls[k] = l at *
      generalize Ls.take k = P at *
      clear hc
      go_wp2_with fail
      refine HPK.out.mono ?_
      rintro e w2 ⟨v, rfl, ho, hb2⟩
      obtain ⟨B, m, d, rfl, hlm, hmd, hdm, _⟩ := ho.shape
      have OX2 := OX.out.below hb2
      have B2 := Lib.hid (bl_trans BW.out hb2)
      have ho2 : OwnR w2 W.heap.size (.slice B m d) l := ho.from BW.out.size
      have bx := bl_alloc (Below.refl w2.heap.size w2) (.cells #[.slice B m d] 25)
      have bz := bl_alloc bx (.cells #[.slice B m d] 25)
      have c5 := cell_of_row _ w2.heap.size 0 _ _ _ (heap_alloc_new w2 (.cells #[.slice B m d] 25))
      have L5 := Lib.hid (show ∀ j u, [Value.slice B m d][j]? = some u → (w2.alloc (.cells #[.slice B m d] 25)).cell? ((⟨w2.heap.size, 0, none⟩ : Addr).add j) = some u from fun j u hu => by
        rw [addr_mk, Nat.zero_add, cell_of_row _ w2.heap.size j _ _ _ (heap_alloc_new w2 (.cells #[.slice B m d] 25))]
        simpa using hu)
      have ONE := Lib.hid (show ∀ j u, [Value.slice B m d][j]? = some u → ((w2.alloc (.cells #[.slice B m d] 25)).alloc (.cells #[.slice B m d] 25)).cell? ((⟨w2.heap.size + 1, 0, none⟩ : Addr).add j) = some u from fun j u hu => by
        have h := one_row (w2.alloc (.cells #[.slice B m d] 25)) (.slice B m d) 25 j u hu
        rwa [World.size_alloc] at h)
      have OXZ := Lib.hid (OX2.below bz)
      have ORZ := Lib.hid (ho2.later bz)
      have BZ := Lib.hid (bl_trans B2.out bz)
      obtain ⟨vals, hv1, hv2, hv3⟩ := OXZ.out
      have HV1 := Lib.hid hv1
      have HV2 := Lib.hid hv2
      have HV3 := Lib.hid hv3
      obtain ⟨i0, hi, hz0, hz1, hz2⟩ := info_parts info_rex
      clear ho ho2 hb2 OX2 bx bz hv1 hv2 hv3 HPK OX BW hc2 OXZ
      have hk6 := HTL.out
      go_wp2_with (first | (refine wpList_load_part 25 1 _ rfl rfl ⟨w2.heap.size, 0, none⟩ rfl [.slice B m d] (agg_rex' _) (sz_rex' _) rfl L5.out ?_) | (at_builtin; refine wpList_append_lies _ rfl _ _ 22 rfl W.heap.size 25 i0 (.agg #[.slice none 0 0]) 1 24 Tryz.underlying22 hi hz0 hz1 hz2 rfl (by decide) (.slice A1 n1 c1) P.length vals rfl HV1.out ⟨w2.heap.size + 1, 0, none⟩ 1 1 [.slice B m d] rfl rfl ONE.out (by simp [Value.oneCell']) (by omega) (by simp only [maxLen]; omega) (by omega) BZ.out.size _ rfl ?_; intro g3 c3 w3 ho3 hg3 hat3 hlt3))
      have hnr : ∀ (x : Value) (q : List RN), OwnR ((w2.alloc (.cells #[.slice B m d] 25)).alloc (.cells #[.slice B m d] 25)) W.heap.size x q → OwnR w3 W.heap.size x q := fun x q hq => by
        refine World.ownsRow.kept hq hg3 ?_
        cases hx : x.ownBlock with
        | none => exact Or.inl rfl
        | some j => exact Or.inr fun e => rows_ne (by decide) hq HV1.out j hx e.symm
      refine ⟨⟨k + 1, some ⟨g3, 0, none⟩, k + 1, c3, by omega, rfl, by go_num, ?_, bl_grown BZ.out hg3 (fun i e => (World.ownsRow.lt HV1.out i e).1)⟩, by simp [intOf]; omega⟩
      rw [HTK.out]
      refine ⟨vals ++ [.slice B m d], ?_, by rw [List.length_append, List.length_append, HV2.out]; rfl, fun i hi => ?_⟩
      · have h := ho3
        rw [List.length_append, List.length_singleton]
        rw [hk6] at h ⊢
        exact h
      · by_cases hik : i < P.length
        · obtain ⟨B', m', d', y1, y2, y3, y4⟩ := HV3.out i hik
          refine ⟨B', m', d', by rw [List.getElem?_append_left (by rw [HV2.out]; exact hik)]; exact y1, by rw [List.getElem_append_left hik]; exact y2, y3, ?_⟩
          rw [List.getElem_append_left hik]
          exact hnr _ _ y4
        · obtain rfl : i = P.length := by rw [List.length_append, List.length_singleton] at hi; omega
          refine ⟨B, m, d, by rw [List.getElem?_append_right (by rw [HV2.out]; exact Nat.le_refl _), HV2.out, Nat.sub_self]; rfl, by simp; exact hlm.out, hmd, ?_⟩
          simp only [List.getElem_append_right (Nat.le_refl _), Nat.sub_self, List.getElem_cons_zero]
          exact hnr _ _ ORZ.out
    · obtain rfl : k = n := by omega
      rw [show Ls.take k = Ls from List.take_of_length_le (by rw [HL.out]; exact Nat.le_refl _)] at OX
      obtain ⟨B, m, d, e, x1, x2, x3⟩ := OX.out.rdx
      injection e with e1 e2 e3
      subst e1 e2 e3
      have X1 := Lib.hid x1
      have X3 := Lib.hid x3
      clear x1 x3
      go_wp2_with fail
      exact post_is HQ ⟨_, _, _, rfl, X1.out, x2, X3.out, BW.out⟩

end Go.Proofs.YtjibfffefppniaaGreat

/- The law's works. -/
set_option linter.unusedVariables false
set_option linter.unusedSimpArgs false
namespace Go.Proofs.YtjibfffefppniaaGreat
open Go.RowKit
attribute [local go_sem] Oper.semAt_some

def tAs : Rx := .star (.set (oneS 97))
def tBb : Rx := .set (oneS 98)
def lsW : List (List RN) := [flat 0 tAs, flat 0 tBb]
deriving instance DecidableEq for Res
theorem par_as : parM 60 .ways [97, 42] = .ok tAs [] := by decide +kernel
theorem par_bb : parM 60 .ways [98] = .ok tBb [] := by decide +kernel
def eW : List Ed := netE 1 lsW
def xW : List Int := [4, 6]
theorem ofn_w : ofN lsW = 0 := by decide +kernel
theorem nets_w : netS lsW = 7 := by decide +kernel
theorem netx_w : zl (netX 1 lsW) = xW := by decide +kernel
theorem cl_w : askE 7 eW xW [0] (fun S ys => closeL S eW ys) = ([0, 1, 3, 4, 5], 0) := by decide +kernel
theorem st_w : askE 7 eW xW [0, 1, 5] (fun S ys => stepL S eW 97 ys) = ([2], 0) := by decide +kernel
theorem rn_1 : runE 7 eW xW [97, 97] = (0, 0) := by decide +kernel
theorem rn_2 : runE 7 eW xW [98] = (1, 0) := by decide +kernel
theorem rn_3 : runE 7 eW xW [97, 98] = (-1, 0) := by decide +kernel
theorem rn_4 : runE 7 eW xW [] = (0, 0) := by decide +kernel

theorem ew_len : eW.length ≤ 100 := by decide +kernel
theorem rdw_z {w : World} {A : Option Addr} {l : List Nat} (h : RdZ w A l) : RdW w A (zl l) := fun k hk => by
  have hk2 : k < l.length := by unfold zl at hk; rwa [List.length_map] at hk
  obtain ⟨ad, e, hc⟩ := h k hk2
  refine ⟨ad, e, ?_⟩
  rw [show (zl l)[k] = ((l[k] : Nat) : Int) from List.getElem_map (fun n : Nat => (n : Int))]
  exact hc
theorem rdw_row (w : World) (xs : List Int) (vs : Array Value) (hv : vs.toList = xs.map (Value.int .i64)) : RdW (w.alloc (.cells vs 3)) (some ⟨w.heap.size, 0, none⟩) xs := fun k hk => by
  refine ⟨_, rfl, ?_⟩
  rw [addr_mk, Nat.zero_add, cell_of_row _ w.heap.size k _ _ _ (heap_alloc_new w _), ← Array.getElem?_toList, hv]
  simp [hk]
/-- The chapter's net in a box. -/
structure NetW (W : World) (g : Nat) (A A2 : Option Addr) (n c n2 c2 : Nat) (w : World) : Prop where
  net : w.heap[g]? = some (.cells #[.int .i64 7, .slice A n c, .slice A2 n2 c2] 29 (0, 0))
  re : RdE w A eW
  rx : RdW w A2 xW
  low : Below W.heap.size W w
  ln : eW.length = n
  lx : xW.length = n2
  cn : n ≤ c
  cx : n2 ≤ c2
theorem NetW.then {W : World} {g : Nat} {A A2 : Option Addr} {n c n2 c2 : Nat} {w w' : World} (h : NetW W g A A2 n c n2 c2 w) (hb : Below w.heap.size w w') : NetW W g A A2 n c n2 c2 w' :=
  ⟨(hb.block _ (Array.getElem?_eq_some_iff.1 h.net).1).trans h.net, h.re.below hb, h.rx.below hb, bl_trans h.low hb, h.ln, h.lx, h.cn, h.cx⟩
theorem NetW.load {W : World} {g : Nat} {A A2 : Option Addr} {n c n2 c2 : Nat} {w : World} (h : NetW W g A A2 n c n2 c2 w) : ∀ t u, [Value.int .i64 7, .slice A n c, .slice A2 n2 c2][t]? = some u → w.cell? ((⟨g, 0, none⟩ : Addr).add t) = some u := load_net w h.net
theorem NetW.bn {W : World} {g : Nat} {A A2 : Option Addr} {n c n2 c2 : Nat} {w : World} (h : NetW W g A A2 n c n2 c2 w) : n ≤ 140737488355328 := by
  have h1 := ew_len
  have h2 := h.ln
  omega
theorem NetW.bx {W : World} {g : Nat} {A A2 : Option Addr} {n c n2 c2 : Nat} {w : World} (h : NetW W g A A2 n c n2 c2 w) : n2 ≤ 140737488355328 := by
  have h2 := h.lx
  have h1 : xW.length = 2 := rfl
  omega
theorem w_of (W : World) : Calls Tryz.prog 27 #[.slice (some ⟨W.heap.size, 0, none⟩) 2 2] (W.alloc (.cells #[.string ⟨#[97, 42]⟩, .string ⟨#[98]⟩] 9)) (GotRx (W.alloc (.cells #[.string ⟨#[97, 42]⟩, .string ⟨#[98]⟩] 9)) lsW) := by
  have hk := heap_alloc_new W (.cells #[.string ⟨#[97, 42]⟩, .string ⟨#[98]⟩] 9)
  refine of_texts [[97, 42], [98]] lsW _ 2 2 rfl rfl (by omega) _ (fun i h => ?_) (fun i h h' w => ?_)
  · refine ⟨_, rfl, ?_⟩
    match i, h with
    | 0, _ => exact cell_of_row _ W.heap.size 0 _ _ _ hk
    | 1, _ => exact cell_of_row _ W.heap.size 1 _ _ _ hk
  · match i, h with
    | 0, _ =>
      have h := parse_short [97, 42] (by decide) 60 (by rw [par_as]; simp) w
      rw [par_as] at h
      exact h
    | 1, _ =>
      have h := parse_short [98] (by decide) 60 (by rw [par_bb]; simp) w
      rw [par_bb] at h
      exact h
set_option maxRecDepth 100000 in
set_option maxHeartbeats 16000000 in
theorem works_any (W : World) : Calls Tryz.prog 11 #[] W (GotBl W true) := by
  generalize hQ : GotBl W true = Q
  have HQ := Lib.hid hQ
  have HO := Lib.hid (w_of W)
  have B0 := Lib.hid (bl_alloc (Below.refl W.heap.size W) (.cells #[.string ⟨#[97, 42]⟩, .string ⟨#[98]⟩] 9))
  clear hQ
  go_enter Tryz.func11, Tryz.ntmps11
  go_wp2_with fail
  refine HO.out.mono ?_
  rintro e w1 ⟨B, m, d, rfl, hm, hmd, hrx, hb1⟩
  have B1 := Lib.hid (bl_trans B0.out hb1)
  have HO1 := Lib.hid (of_all lsW B m d hm (by rw [← hm]; decide) w1 hrx)
  clear hm hrx hb1 HO B0
  go_wp2_with fail
  refine HO1.out.mono ?_
  rintro e w2 ⟨S, A, n, c, A2, n2, c2, rfl, y1, y2, y3, y4⟩
  rw [ofn_w, if_pos rfl] at y1 y2 y3
  rw [ofn_w]
  rw [nets_w] at y3
  subst y3
  obtain ⟨A', n', c', e1, z1, z2, z3, z4⟩ := y1.form
  injection e1 with e1 e2 e3
  subst e1 e2 e3
  obtain ⟨A', n', c', e1, x1, x2, x3, x4⟩ := y2.form
  injection e1 with e1 e2 e3
  subst e1 e2 e3
  have hx := rdw_z x4
  rw [netx_w] at hx
  have bx := bl_alloc (Below.refl w2.heap.size w2) (.cells #[.int .i64 7, .slice A n c, .slice A2 n2 c2] 29)
  have NW := Lib.hid (show NetW W w2.heap.size A A2 n c n2 c2 (w2.alloc (.cells #[.int .i64 7, .slice A n c, .slice A2 n2 c2] 29)) from
    ⟨heap_alloc_new w2 _, RdE.below z4 bx, hx.below bx, bl_trans (bl_trans B1.out y4) bx, z1.out, by rw [← netx_w]; unfold zl; rw [List.length_map]; exact x1.out, z2, x2⟩)
  clear y1 y2 y4 z1 z2 z3 z4 x1 x2 x3 x4 hx bx HO1 B1
  go_upto_region 2 with fail
  generalize w2.alloc (.cells #[.int .i64 7, .slice A n c, .slice A2 n2 c2] 29) = w3 at *
  generalize w2.heap.size = g at *
  have N3 := NW
  clear NW
  have bA := bl_alloc (Below.refl w3.heap.size w3) (.cells #[.int .i64 0] 3)
  have NA := N3.out.then bA
  have L3 := Lib.hid N3.out.load
  have HC := close_any 7 eW xW [0] A A2 (some ⟨w3.heap.size, 0, none⟩) n c n2 c2 1 1 NA.ln NA.lx rfl NA.cn NA.cx NA.bn NA.bx (by omega) _ NA.re NA.rx (rdw_row w3 [0] #[.int .i64 0] rfl)
  rw [cl_w] at HC
  have HC2 := Lib.hid HC
  have NB := Lib.hid NA
  clear HC bA NA
  go_wp2_with (refine wpList_load_part 29 3 _ rfl rfl ⟨g, 0, none⟩ rfl [.int .i64 7, .slice A n c, .slice A2 n2 c2] (agg_net _) (sz_net _) rfl L3.out ?_)
  refine HC2.out.mono ?_
  rintro e w4 ⟨v, rfl, ho, hb⟩
  obtain ⟨A4, n4, c4, rfl, hl, hc4, hm4, hz⟩ := ho.form
  obtain rfl : 5 = n4 := hl.out
  have N4 := Lib.hid (NB.out.then hb)
  have Q4 := Lib.hid (rdw_z hz)
  clear ho hl hz HC2 NB L3 N3 hm4
  clear hb
  have bA := bl_alloc (Below.refl w4.heap.size w4) (.cells #[.int .i64 0, .int .i64 1, .int .i64 5] 3)
  have NA := N4.out.then bA
  have L4 := Lib.hid N4.out.load
  have HC := step_any 97 (by omega) 7 eW xW [0, 1, 5] A A2 (some ⟨w4.heap.size, 0, none⟩) n c n2 c2 3 3 NA.ln NA.lx rfl NA.cn NA.cx NA.bn NA.bx (by omega) _ NA.re NA.rx (rdw_row w4 [0, 1, 5] #[.int .i64 0, .int .i64 1, .int .i64 5] rfl)
  rw [st_w] at HC
  have HC2 := Lib.hid HC
  have NB := Lib.hid NA
  clear HC bA NA
  go_wp2_with (refine wpList_load_part 29 3 _ rfl rfl ⟨g, 0, none⟩ rfl [.int .i64 7, .slice A n c, .slice A2 n2 c2] (agg_net _) (sz_net _) rfl L4.out ?_)
  refine HC2.out.mono ?_
  rintro e w5 ⟨v, rfl, ho, hb⟩
  obtain ⟨A5, n5, c5, rfl, hl, hc5, hm5, hz⟩ := ho.form
  obtain rfl : 1 = n5 := hl.out
  have N5 := Lib.hid (NB.out.then hb)
  have Q5 := Lib.hid (rdw_z hz)
  clear ho hl hz HC2 NB L4 N4 hm5
  have P5 := Lib.hid ((Q4.out.below (bl_alloc (Below.refl w4.heap.size w4) (.cells #[.int .i64 0, .int .i64 1, .int .i64 5] 3))).below hb)
  clear hb Q4
  have bA := bl_alloc (Below.refl w5.heap.size w5) (.cells #[.int .i64 4, .int .i64 6] 3)
  have NA := N5.out.then bA
  have PA := P5.out.below bA
  have QA := Q5.out.below bA
  have q0 := cell_of_row w5 g 0 _ _ _ N5.out.net
  have q2 := cell_of_row w5 g 2 _ _ _ N5.out.net
  have HC := Lib.hid (show Calls Tryz.prog 18 #[.slice A2 n2 c2, .slice (some ⟨w5.heap.size, 0, none⟩) 2 2] (w5.alloc (.cells #[.int .i64 4, .int .i64 6] 3)) (GotBl (w5.alloc (.cells #[.int .i64 4, .int .i64 6] 3)) true) from by
    have h := eqInts_any A2 (some ⟨w5.heap.size, 0, none⟩) n2 c2 2 2 xW [4, 6] (w5.alloc (.cells #[.int .i64 4, .int .i64 6] 3)) NA.lx rfl NA.rx (rdw_row w5 [4, 6] #[.int .i64 4, .int .i64 6] rfl) (by have := NA.bx; omega) (by omega)
    rw [show decide ((xW : List Int) = [4, 6]) = true from by decide +kernel] at h
    exact h)
  have NB := Lib.hid NA
  have PB := Lib.hid PA
  have QB := Lib.hid QA
  clear NA PA QA bA
  go_wp2_with fail
  refine HC.out.mono ?_
  rintro e w6 ⟨rfl, hb⟩
  have N6 := Lib.hid (NB.out.then hb)
  have P6 := Lib.hid (PB.out.below hb)
  have Q6 := Lib.hid (QB.out.below hb)
  clear hb HC NB PB QB q0 q2 N5 P5 Q5
  have bA := bl_alloc (Below.refl w6.heap.size w6) (.cells #[.int .i64 0, .int .i64 1, .int .i64 3, .int .i64 4, .int .i64 5] 3)
  have NA := N6.out.then bA
  have PA := P6.out.below bA
  have QA := Q6.out.below bA
  have q0 := cell_of_row w6 g 0 _ _ _ N6.out.net
  have q2 := cell_of_row w6 g 2 _ _ _ N6.out.net
  have HC := Lib.hid (show Calls Tryz.prog 18 #[.slice A4 5 c4, .slice (some ⟨w6.heap.size, 0, none⟩) 5 5] (w6.alloc (.cells #[.int .i64 0, .int .i64 1, .int .i64 3, .int .i64 4, .int .i64 5] 3)) (GotBl (w6.alloc (.cells #[.int .i64 0, .int .i64 1, .int .i64 3, .int .i64 4, .int .i64 5] 3)) true) from by
    have h := eqInts_any A4 (some ⟨w6.heap.size, 0, none⟩) 5 c4 5 5 [0, 1, 3, 4, 5] [0, 1, 3, 4, 5] (w6.alloc (.cells #[.int .i64 0, .int .i64 1, .int .i64 3, .int .i64 4, .int .i64 5] 3)) rfl rfl PA (rdw_row w6 [0, 1, 3, 4, 5] #[.int .i64 0, .int .i64 1, .int .i64 3, .int .i64 4, .int .i64 5] rfl) (by have := NA.bx; omega) (by omega)
    rw [show decide (([0, 1, 3, 4, 5] : List Int) = [0, 1, 3, 4, 5]) = true from by decide +kernel] at h
    exact h)
  have NB := Lib.hid NA
  have PB := Lib.hid PA
  have QB := Lib.hid QA
  clear NA PA QA bA
  go_wp2_with fail
  refine HC.out.mono ?_
  rintro e w7 ⟨rfl, hb⟩
  have N7 := Lib.hid (NB.out.then hb)
  have P7 := Lib.hid (PB.out.below hb)
  have Q7 := Lib.hid (QB.out.below hb)
  clear hb HC NB PB QB q0 q2 N6 P6 Q6
  have bA := bl_alloc (Below.refl w7.heap.size w7) (.cells #[.int .i64 2] 3)
  have NA := N7.out.then bA
  have PA := P7.out.below bA
  have QA := Q7.out.below bA
  have q0 := cell_of_row w7 g 0 _ _ _ N7.out.net
  have q2 := cell_of_row w7 g 2 _ _ _ N7.out.net
  have HC := Lib.hid (show Calls Tryz.prog 18 #[.slice A5 1 c5, .slice (some ⟨w7.heap.size, 0, none⟩) 1 1] (w7.alloc (.cells #[.int .i64 2] 3)) (GotBl (w7.alloc (.cells #[.int .i64 2] 3)) true) from by
    have h := eqInts_any A5 (some ⟨w7.heap.size, 0, none⟩) 1 c5 1 1 [2] [2] (w7.alloc (.cells #[.int .i64 2] 3)) rfl rfl QA (rdw_row w7 [2] #[.int .i64 2] rfl) (by have := NA.bx; omega) (by omega)
    rw [show decide (([2] : List Int) = [2]) = true from by decide +kernel] at h
    exact h)
  have NB := Lib.hid NA
  have PB := Lib.hid PA
  have QB := Lib.hid QA
  clear NA PA QA bA
  go_wp2_with fail
  refine HC.out.mono ?_
  rintro e w8 ⟨rfl, hb⟩
  have N8 := Lib.hid (NB.out.then hb)
  have P8 := Lib.hid (PB.out.below hb)
  have Q8 := Lib.hid (QB.out.below hb)
  clear hb HC NB PB QB q0 q2 N7 P7 Q7
  have L8 := Lib.hid N8.out.load
  have HC := Lib.hid (show Calls Tryz.prog 28 #[.agg #[.int .i64 7, .slice A n c, .slice A2 n2 c2], .string ⟨#[97, 97]⟩, .int .i64 (0)] w8 (GotBl w8 true) from by
    have h := runs_any 7 eW xW [97, 97] (0) A A2 n c n2 c2 N8.out.ln N8.out.lx (by decide) N8.out.cn N8.out.cx N8.out.bn N8.out.bx w8 N8.out.re N8.out.rx
    rw [rn_1, show (decide (((0 : Int), (0 : Nat)).2 = 0) && decide (((0 : Int), (0 : Nat)).1 = (0))) = true from by decide +kernel] at h
    exact h)
  have q0 := cell_of_row w8 g 0 _ _ _ N8.out.net
  have q1 := cell_of_row w8 g 1 _ _ _ N8.out.net
  have q2 := cell_of_row w8 g 2 _ _ _ N8.out.net
  go_wp2_with fail
  refine HC.out.mono ?_
  rintro e w9 ⟨rfl, hb⟩
  have N9 := Lib.hid (N8.out.then hb)
  clear hb HC L8 N8 q0 q1 q2
  have L9 := Lib.hid N9.out.load
  have HC := Lib.hid (show Calls Tryz.prog 28 #[.agg #[.int .i64 7, .slice A n c, .slice A2 n2 c2], .string ⟨#[98]⟩, .int .i64 (1)] w9 (GotBl w9 true) from by
    have h := runs_any 7 eW xW [98] (1) A A2 n c n2 c2 N9.out.ln N9.out.lx (by decide) N9.out.cn N9.out.cx N9.out.bn N9.out.bx w9 N9.out.re N9.out.rx
    rw [rn_2, show (decide (((1 : Int), (0 : Nat)).2 = 0) && decide (((1 : Int), (0 : Nat)).1 = (1))) = true from by decide +kernel] at h
    exact h)
  have q0 := cell_of_row w9 g 0 _ _ _ N9.out.net
  have q1 := cell_of_row w9 g 1 _ _ _ N9.out.net
  have q2 := cell_of_row w9 g 2 _ _ _ N9.out.net
  go_wp2_with fail
  refine HC.out.mono ?_
  rintro e w10 ⟨rfl, hb⟩
  have N10 := Lib.hid (N9.out.then hb)
  clear hb HC L9 N9 q0 q1 q2
  have L10 := Lib.hid N10.out.load
  have HC := Lib.hid (show Calls Tryz.prog 28 #[.agg #[.int .i64 7, .slice A n c, .slice A2 n2 c2], .string ⟨#[97, 98]⟩, .int .i64 (-1)] w10 (GotBl w10 true) from by
    have h := runs_any 7 eW xW [97, 98] (-1) A A2 n c n2 c2 N10.out.ln N10.out.lx (by decide) N10.out.cn N10.out.cx N10.out.bn N10.out.bx w10 N10.out.re N10.out.rx
    rw [rn_3, show (decide (((-1 : Int), (0 : Nat)).2 = 0) && decide (((-1 : Int), (0 : Nat)).1 = (-1))) = true from by decide +kernel] at h
    exact h)
  have q0 := cell_of_row w10 g 0 _ _ _ N10.out.net
  have q1 := cell_of_row w10 g 1 _ _ _ N10.out.net
  have q2 := cell_of_row w10 g 2 _ _ _ N10.out.net
  go_wp2_with fail
  refine HC.out.mono ?_
  rintro e w11 ⟨rfl, hb⟩
  have N11 := Lib.hid (N10.out.then hb)
  clear hb HC L10 N10 q0 q1 q2
  have L11 := Lib.hid N11.out.load
  have HC := Lib.hid (show Calls Tryz.prog 28 #[.agg #[.int .i64 7, .slice A n c, .slice A2 n2 c2], .string ⟨#[]⟩, .int .i64 (0)] w11 (GotBl w11 true) from by
    have h := runs_any 7 eW xW [] (0) A A2 n c n2 c2 N11.out.ln N11.out.lx (by decide) N11.out.cn N11.out.cx N11.out.bn N11.out.bx w11 N11.out.re N11.out.rx
    rw [rn_4, show (decide (((0 : Int), (0 : Nat)).2 = 0) && decide (((0 : Int), (0 : Nat)).1 = (0))) = true from by decide +kernel] at h
    exact h)
  have q0 := cell_of_row w11 g 0 _ _ _ N11.out.net
  have q1 := cell_of_row w11 g 1 _ _ _ N11.out.net
  have q2 := cell_of_row w11 g 2 _ _ _ N11.out.net
  go_wp2_with fail
  refine HC.out.mono ?_
  rintro e w12 ⟨rfl, hb⟩
  have N12 := Lib.hid (N11.out.then hb)
  clear hb HC L11 N11 q0 q1 q2
  go_wp2_with fail
  exact post_is HQ ⟨rfl, N12.out.low⟩
end Go.Proofs.YtjibfffefppniaaGreat

/- The law's rising, where it says yes. -/
set_option linter.unusedVariables false
set_option linter.unusedSimpArgs false
namespace Go.Proofs.YtjibfffefppniaaGreat
open Go.RowKit
attribute [local go_sem] Oper.semAt_some

end Go.Proofs.YtjibfffefppniaaGreat

/- The law's has: each number of a rising list in another one. -/
set_option linter.unusedVariables false
set_option linter.unusedSimpArgs false
namespace Go.Proofs.YtjibfffefppniaaGreat
open Go.RowKit
attribute [local go_sem] Oper.semAt_some

theorem not_in_end {Y : List Int} {x : Int} (h : ∀ j (hj : j < Y.length), Y[j] < x) : x ∉ Y := fun hm => by
  obtain ⟨j, hj, e⟩ := List.getElem_of_mem hm
  have := h j hj
  omega
theorem not_in_mid {Y : List Int} {x : Int} {k : Nat} (hk : k < Y.length) (hup : ∀ i j (hi : i < Y.length) (hj : j < Y.length), i < j → Y[i] < Y[j]) (h : ∀ j (hj : j < Y.length), j < k → Y[j] < x) (hx : x < Y[k]) : x ∉ Y := fun hm => by
  obtain ⟨j, hj, e⟩ := List.getElem_of_mem hm
  by_cases h1 : j < k
  · have := h j hj h1
    omega
  · by_cases h2 : j = k
    · subst h2
      omega
    · have := hup k j hk hj (by omega)
      omega
end Go.Proofs.YtjibfffefppniaaGreat
