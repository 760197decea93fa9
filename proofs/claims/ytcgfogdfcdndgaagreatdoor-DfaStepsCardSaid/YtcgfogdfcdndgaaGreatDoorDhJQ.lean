/- Machines: the document's Copy. -/
import Derived.Test.YtcgfogdfcdndgaaGreatDoorDhIQ
import Derived.Test.YtcgfogdfcdndgaaGreatDoorDhEQ
import Derived.Maps.AppendAt
import Derived.Deep.Upon
set_option linter.unusedVariables false
set_option linter.unusedSimpArgs false
namespace Go.Proofs.YtcgfogdfcdndgaaGreatDoor
open Go.RowKit Go.Deep
attribute [local go_sem] Oper.semAt_some

theorem run_append_rows (w : World) (t ty : TypeId) (base : Nat) (e : TypeId) (i : TypeInfo) (z : Value) (size bytes : Nat) (ht : Tryz.prog.underlying t = some (.slice e)) (hi : Tryz.prog.info? e = some i) (hz : i.zero = some z)
    (hsize : i.size = size) (hby : i.bytes = bytes) (hzs : z.cells.size = size) (hsz : 0 < size)
    (v : Value) (n : Nat) (xs : List Value) (hown : w.ownsRow base e size v n xs) (A : Option Addr) (m c : Nat) (news : List Value) (hl : news.length = m * size)
    (hsrc : (news = [] ∧ A = none) ∨ ∃ ad, A = some ad ∧ ∀ j u, news[j]? = some u → w.cell? (ad.add j) = some u) (h1 : ∀ u ∈ news, u.oneCell' = true)
    (h63 : n + m ≤ maxLen) (hbytes : (n + m) * bytes ≤ 140737488355328) (hbase : base ≤ w.heap.size) :
    ∃ v' w', (Builtin.append_ #[t, t] ty #[v, .slice A m c]).run Tryz.prog w = .ok v' w' ∧ w'.ownsRow base e size v' (n + m) (xs ++ news) ∧ w.grownBy w' v.ownBlock ∧ (v'.ownBlock = v.ownBlock ∨ v'.ownBlock = some w.heap.size) := by
  rcases hsrc with ⟨rfl, rfl⟩ | ⟨ad, rfl, hc⟩
  · have hm : m = 0 := by
      rcases Nat.eq_zero_or_pos m with h | h
      · exact h
      · have := Nat.mul_pos h hsz
        simp at hl
        omega
    subst hm
    have hv : ∃ b l k, v = .slice b l k ∧ l ≤ k := by
      rcases hown.2 with ⟨rfl, _⟩ | ⟨g, cap, cur, rfl, _, _, hnc, _⟩
      · exact ⟨_, _, _, rfl, Nat.le_refl _⟩
      · exact ⟨_, _, _, rfl, hnc⟩
    obtain ⟨b, l, k, rfl, hlk⟩ := hv
    refine ⟨_, w, run_append_nothing w t t ty e i ht hi b l k hlk _ (Src.ofNil w ht c), ?_, ⟨rfl, rfl, rfl, Nat.le_refl _, fun _ _ _ => rfl⟩, Or.inl rfl⟩
    rw [List.append_nil, Nat.add_zero]
    exact hown
  · obtain ⟨v', w', hr, h2, h3, _, h5⟩ := run_append_own_at (P := Tryz.prog) w base t ty e i z size bytes ht hi hz hsize hby hzs hsz v n xs hown ad m c news hl hc h1 h63 hbytes hbase
    exact ⟨v', w', hr, h2, h3, h5⟩
theorem wpList_append_rowsN {ops : Array Oper} {rest : List Oper} {o : Oper} {a : Act} {Q : Exit → Act → World → Prop} (w : World) (hgd : Region.wanted o (yielded ops a.tmps) = true) (s x : Operand) (t : TypeId)
    (ho : o.op = .call { callee := .builtin .append, args := #[s, x], argTypes := #[t, t] })
    (base : Nat) (e : TypeId) (i : TypeInfo) (z : Value) (size bytes : Nat) (ht : Tryz.prog.underlying t = some (.slice e)) (hi : Tryz.prog.info? e = some i) (hz : i.zero = some z)
    (hsize : i.size = size) (hby : i.bytes = bytes) (hzs : z.cells.size = size) (hsz : 0 < size)
    (v : Value) (n : Nat) (xs : List Value) (hs : a.eval s = v) (hown : w.ownsRow base e size v n xs) (A : Option Addr) (m c : Nat) (news : List Value) (hx : a.eval x = .slice A m c) (hl : news.length = m * size)
    (hsrc : (news = [] ∧ A = none) ∨ ∃ ad, A = some ad ∧ ∀ j u, news[j]? = some u → w.cell? (ad.add j) = some u) (h1 : ∀ u ∈ news, u.oneCell' = true)
    (h63 : n + m ≤ maxLen) (hbytes : (n + m) * bytes ≤ 140737488355328) (hbase : base ≤ w.heap.size)
    (h : ∀ v' w', w'.ownsRow base e size v' (n + m) (xs ++ news) → w.grownBy w' v.ownBlock → (v'.ownBlock = v.ownBlock ∨ v'.ownBlock = some w.heap.size) → wpList Tryz.prog ops Q rest (a.put o.dst v') w') :
    wpList Tryz.prog ops Q (o :: rest) a w := by
  refine wpList_step fun K hK => ?_
  rw [if_pos hgd]
  obtain ⟨v', w', hr, h2, h3, h5⟩ := run_append_rows w t o.type base e i z size bytes ht hi hz hsize hby hzs hsz v n xs hown A m c news hl hsrc h1 h63 hbytes hbase
  unfold Oper.wp execOp
  simp only [ho, resolve, invoke, builtin, Sem.run_bind, Sem.run_pure, Result.andThen_ok, List.map_toArray, List.map_cons, List.map_nil, hs, hx, hr]
  exact hK _ _ (h v' w' h2 h3 h5)
theorem rdw_srcD {w : World} {A : Option Addr} {l : List Int} (h : RdW w A l) : (l.map (Value.int .i64) = [] ∧ A = none) ∨ ∃ ad, A = some ad ∧ ∀ j u, (l.map (Value.int .i64))[j]? = some u → w.cell? (ad.add j) = some u := by
  cases A with
  | none =>
    left
    refine ⟨?_, rfl⟩
    cases l with
    | nil => rfl
    | cons x l => obtain ⟨ad, e, _⟩ := h 0 (by simp); cases e
  | some ad =>
    refine Or.inr ⟨ad, rfl, fun j u hu => ?_⟩
    rw [List.getElem?_map] at hu
    obtain ⟨x, hx, rfl⟩ := Option.map_eq_some_iff.1 hu
    obtain ⟨hj, rfl⟩ := List.getElem?_eq_some_iff.1 hx
    obtain ⟨ad', e, hc⟩ := h j hj
    obtain rfl := Option.some.inj e
    exact hc
theorem int_oneD (l : List Int) : ∀ u ∈ l.map (Value.int .i64), u.oneCell' = true := fun u hu => by
  obtain ⟨x, _, rfl⟩ := List.mem_map.1 hu
  rfl
/-- What CopyInts answers. -/
def GotZ (W : World) (l : List Int) (e : Ending) (W' : World) : Prop := ∃ v, e = .returned v ∧ OwnZ W' W.heap.size v l ∧ Below W.heap.size W W'
set_option maxRecDepth 20000 in
theorem copyz_any (l : List Int) (A : Option Addr) (n c : Nat) (hn : l.length = n) (hn2 : n * 8 ≤ 140737488355328) (W : World) (hr : RdW W A l) :
    Calls Tryz.prog 36 #[.slice A n c] W (GotZ W l) := by
  generalize hQ : GotZ W l = Q
  have HQ := Lib.hid hQ
  have HN := Lib.hid hn
  have HR := Lib.hid hr
  obtain ⟨i0, hi0, hz0, hz1, hz2⟩ := info_parts info_int
  clear hQ hn hr
  go_enter Tryz.func36, Tryz.ntmps36
  go_wp2_with (at_builtin; refine wpList_append_rowsN _ rfl _ _ 23 rfl W.heap.size 3 i0 (.int .i64 0) 1 8 Tryz.underlying23 hi0 hz0 hz1 hz2 rfl (by decide) (.slice none 0 0) 0 [] rfl (World.ownsRow_nil _ _ _ _) A n c (l.map (Value.int .i64)) rfl (by rw [List.length_map, HN.out, Nat.mul_one]) (rdw_srcD HR.out) (int_oneD l) (by simp only [maxLen]; omega) (by omega) (Nat.le_refl _) ?_; intro v1 w1 ho1 hg1 hat1)
  have ho2 : OwnZ w1 W.heap.size v1 l := by
    unfold OwnZ
    rw [HN.out]
    rw [Nat.zero_add, List.nil_append] at ho1
    exact ho1
  have B1 := Lib.hid (bl_grown (Below.refl W.heap.size W) hg1 (fun i e => by cases e))
  have R1 := Lib.hid ho2
  clear ho1 ho2 hg1 hat1 hi0 hz0 hz1 hz2
  go_wp2_with fail
  exact post_is HQ ⟨_, rfl, R1.out, B1.out⟩
theorem RowsZ.setbox {W : World} {n1 : Nat} {v : Value} {T : List (List Int)} {ex : Nat → Prop} (h : RowsZ W n1 v T ex) {g : Nat} {cs : Array Value} (hk : W.heap[g]? = some (.cells cs 33 (0, 0))) (j : Nat) (x : Value) : RowsZ (W.setCell ⟨g, j, none⟩ x) n1 v T ex :=
  h.keep (fun i hi => set_keep _ _ _ _ _ (fun e => by
    obtain ⟨vals, a1, _⟩ := h
    rcases a1.2 with ⟨e4, _⟩ | ⟨g4, cap4, cur4, e4, _, hg4, _⟩
    · rw [e4] at hi; exact own_none i hi
    · rw [e4] at hi
      obtain rfl : g4 = i := Option.some.inj hi
      exact ne_typ hg4 hk (by decide) e)) (fun i cs' _ _ _ hi => set_keep _ _ _ _ _ (ne_typ hi hk (by decide)))
theorem own_neD {w : World} {base s n : Nat} {e : TypeId} {v : Value} {xs : List Value} (h : w.ownsRow base e s v n xs) {g : Nat} {cs : Array Value} {t : TypeId} {z : Nat × Nat} (hk : w.heap[g]? = some (.cells cs t z)) (ht : e ≠ t) : v.ownBlock ≠ some g := fun hi => by
  rcases h.2 with ⟨e4, _⟩ | ⟨g4, cap4, cur4, e4, _, hg4, _⟩
  · rw [e4] at hi; exact own_none g hi
  · rw [e4] at hi
    obtain rfl : g4 = g := Option.some.inj hi
    exact ne_typ hg4 hk ht rfl
theorem OwnZ.setbox {W : World} {n1 : Nat} {v : Value} {l : List Int} (h : OwnZ W n1 v l) {g : Nat} {cs : Array Value} (hk : W.heap[g]? = some (.cells cs 33 (0, 0))) (j : Nat) (x : Value) : OwnZ (W.setCell ⟨g, j, none⟩ x) n1 v l :=
  owns_keep h (fun i hi => set_keep _ _ _ _ _ (fun e => by subst e; exact own_neD h hk (by decide) hi))
theorem rows_nil (W : World) (n1 : Nat) (ex : Nat → Prop) : RowsZ W n1 (.slice none 0 0) [] ex := ⟨[], World.ownsRow_nil _ _ _ _, rfl, fun i h => absurd h (by simp)⟩
theorem own_cap {w : World} {base : Nat} {A : Option Addr} {n c : Nat} {l : List Int} (h : OwnZ w base (.slice A n c) l) : c ≤ maxLen := by
  rcases h.2 with ⟨e4, _⟩ | ⟨g4, cap4, cur4, e4, _, _, _, hcm, _⟩
  · injection e4 with _ _ e5
    subst e5
    simp [maxLen]
  · injection e4 with _ _ e5
    subst e5
    exact hcm
theorem built_dfa (cl : Nat → Int) : List.foldl (fun (cs : Array Value) (x : Value × Nat) => cs.setIfInBounds x.snd x.fst) dz ((List.range 256).map fun c => Value.int .i64 (cl c)).zipIdx = mkT cl [.slice none 0 0, .slice none 0 0] := by kernel_rfl
set_option maxRecDepth 100000 in
set_option maxHeartbeats 16000000 in
theorem rcopyd_any (cl : Nat → Int) (T : List (List Int)) (X : List Int) (An Ax : Option Addr) (nn cn nx cx : Nat) (hnn : T.length = nn) (hnx : X.length = nx) (hn2 : nn * 24 ≤ 140737488355328) (hx2 : nx * 8 ≤ 140737488355328) (hrb : ∀ r ∈ T, r.length * 8 ≤ 140737488355328) (W : World) (hr : RdTb W An T) (hx : RdW W Ax X) :
    Calls Tryz.prog 18 #[.agg (mkT cl [.slice An nn cn, .slice Ax nx cx])] W (fun e W' => ∃ n1 vT vR ex, e = .returned (.agg (mkT cl [vT, vR])) ∧ W.heap.size ≤ n1 ∧ RowsZ W' n1 vT T ex ∧ OwnZ W' n1 vR X ∧ Below W.heap.size W W') := by
  generalize hQ : (fun (e : Ending) (W' : World) => ∃ n1 vT vR ex, e = .returned (.agg (mkT cl [vT, vR])) ∧ W.heap.size ≤ n1 ∧ RowsZ W' n1 vT T ex ∧ OwnZ W' n1 vR X ∧ Below W.heap.size W W') = Q
  have HQ := Lib.hid hQ
  have b0 := bl_alloc (Below.refl W.heap.size W) (.cells (mkT cl [.slice An nn cn, .slice Ax nx cx]) 33)
  have M0 := Lib.hid (show MachB W W.heap.size cl T X An Ax nn cn nx cx (mkT cl [.slice An nn cn, .slice Ax nx cx]) (W.alloc (.cells (mkT cl [.slice An nn cn, .slice Ax nx cx]) 33)) from
    ⟨heap_alloc_new W _, rfl, hr.below b0, hx.below b0, b0, hnn, hnx, by omega, by omega⟩)
  have hz := zeroD
  have b2 := bl_alloc b0 (.cells dz 33)
  have e1 : (W.alloc (.cells (mkT cl [.slice An nn cn, .slice Ax nx cx]) 33)).heap.size = W.heap.size + 1 := World.size_alloc _ _
  have kz := heap_alloc_new (W.alloc (.cells (mkT cl [.slice An nn cn, .slice Ax nx cx]) 33)) (.cells dz 33)
  rw [e1] at kz
  have KZ := Lib.hid kz
  have M0 := Lib.hid (M0.out.then (bl_alloc (Below.refl _ _) (.cells dz 33)))
  have hs0 : ((W.alloc (.cells (mkT cl [.slice An nn cn, .slice Ax nx cx]) 33)).alloc (.cells dz 33)).heap.size = W.heap.size + 1 + 1 := by rw [World.size_alloc, e1]
  have HS0 := Lib.hid hs0
  have B00 := Lib.hid b2
  have HN := Lib.hid hnn
  have HNX := Lib.hid hnx
  have HRB := Lib.hid hrb
  have bu := built_dfa cl
  have hds := dz_size
  have hms : (mkT cl [.slice none 0 0, .slice none 0 0]).size = 258 := mkT_size _ _
  have hst : ∀ A n c, (mkT cl [.slice none 0 0, .slice none 0 0]).setIfInBounds 257 (.slice A n c) = mkT cl [.slice none 0 0, .slice A n c] := fun A n c => mkT_set cl [.slice none 0 0, .slice none 0 0] 1 (.slice A n c)
  have hcl : ((List.range 256).map fun c => Value.int .i64 (cl c)).length = 256 := by simp
  have HLC := Lib.hid (fun (w : World) (h : w.heap[W.heap.size]? = some (.cells (mkT cl [.slice An nn cn, .slice Ax nx cx]) 33 (0, 0))) => load_cl (cl := cl) h)
  have HRL := Lib.hid (fun (w : World) (h : w.heap[W.heap.size]? = some (.cells (mkT cl [.slice An nn cn, .slice Ax nx cx]) 33 (0, 0))) => (cell_of_row w W.heap.size 257 _ _ _ h).trans (mkT_at cl [.slice An nn cn, .slice Ax nx cx] 1))
  have HNX1 := Lib.hid (fun (w : World) (h : w.heap[W.heap.size]? = some (.cells (mkT cl [.slice An nn cn, .slice Ax nx cx]) 33 (0, 0))) => (cell_of_row w W.heap.size 256 _ _ _ h).trans (mkT_at cl [.slice An nn cn, .slice Ax nx cx] 0))
  generalize ((List.range 256).map fun c => Value.int .i64 (cl c)) = Lc at *
  clear hQ hr hx b0 b2 e1 kz hs0 hnn hnx hrb
  generalize mkT cl [.slice An nn cn, .slice Ax nx cx] = dv at *
  go_enter Tryz.func18, Tryz.ntmps18
  go_upto_region 1 with fail
  generalize (W.alloc (.cells dv 33)).alloc (.cells dz 33) = w0 at *
  generalize hg : W.heap.size = g at *
  have HG := Lib.hid hg
  clear hg
  refine wp_region_held_drew (S := fun W' => W'.heap[g]? = some (.cells dv 33 (0, 0))) (by kernel_rfl) M0.out.box (fun hHeld => ?_)
  have BD := Lib.hid (Below.drew (Below.refl w0.heap.size w0))
  have XD := Lib.hid (M0.out.rx.below BD.out)
  generalize w0.drew = wd at *
  try simp only [zzA, zzB, zzC, Act.put, zzD, zzE, zzF]
  refine wpAnyH_take (i := 0) (v := ?vza0) rfl (by kernel_rfl) (by kernel_rfl) (by kernel_rfl) (fun _ _ _ h => h) (Or.inl ⟨by rfl, ?yza0⟩) hHeld ?rza0
  case yza0 => (intro wS hSw; clear hSw; go_simp; try (with_reducible rfl))
  try simp only [zzA, zzB, zzC, Act.put, zzD, zzE, zzF]
  refine wpAnyH_take (i := 1) (v := .agg Lc.toArray) rfl (by kernel_rfl) (by kernel_rfl) (by kernel_rfl) (fun _ _ _ h => h) (yields_part 30 256 (by rfl) (.tmp 5) rfl ⟨g, 0, none⟩ rfl Lc aggC szC hcl (fun w hw => HLC.out w hw)) hHeld ?_
  try simp only [zzA, zzB, zzC, Act.put, zzD, zzE, zzF]
  refine wpAnyH_take (i := 2) (v := ?vza2) rfl (by kernel_rfl) (by kernel_rfl) (by kernel_rfl) (fun _ _ _ h => h) (Or.inl ⟨by rfl, ?yza2⟩) hHeld ?rza2
  case yza2 => (intro wS hSw; clear hSw; go_simp; try (with_reducible rfl))
  try simp only [zzA, zzB, zzC, Act.put, zzD, zzE, zzF]
  refine wpAnyH_take (i := 3) (v := ?vza3) rfl (by kernel_rfl) (by kernel_rfl) (by kernel_rfl) (fun _ _ _ h => h) (Or.inl ⟨by rfl, ?yza3⟩) hHeld ?rza3
  case yza3 => (intro wS hSw; have q1 := HRL.out wS hSw; clear hSw; go_simp; try (with_reducible rfl))
  try simp only [zzA, zzB, zzC, Act.put, zzD, zzE, zzF]
  refine wpAnyH_ready (rs := [4, 6]) (by kernel_rfl) (by simp) (AllReadyH.cons rfl (fun K hK => ?_) (AllReadyH.cons rfl (fun K hK => ?_) AllReadyH.nil))
  · skip
    go_simp
    go_at_call 36
    refine (copyz_any X Ax nx cx HNX.out hx2 wd XD.out).mono ?_
    rintro e w4 ⟨v4, rfl, ho, hb⟩
    obtain ⟨A4, n4, c4, e4, hn4, hc4, _⟩ := ho.rdz
    subst e4
    have O4 := Lib.hid ho
    have BL4 := Lib.hid (bl_trans BD.out hb)
    have HSD := Lib.hid BD.out.size
    have hS1 := (hb.block g (Array.getElem?_eq_some_iff.1 hHeld).1).trans hHeld
    clear hHeld hb ho hn4 BD XD
    go_wp2_with fail
    refine hK.out _ _ hS1 (fun hHeld => ?_)
    clear hK K hS1
    try simp only [zzA, zzB, zzC, Act.put, zzD, zzE, zzF]
    refine wpAnyH_take (i := 5) (v := ?vza55) rfl (by kernel_rfl) (by kernel_rfl) (by kernel_rfl) (fun _ _ _ h => h) (Or.inl ⟨by rfl, ?yza55⟩) hHeld ?rza55
    case yza55 => (intro wS hSw; clear hSw; go_simp; try (with_reducible rfl))
    try simp only [zzA, zzB, zzC, Act.put, zzD, zzE, zzF]
    refine wpAnyH_ready (rs := [6]) (by kernel_rfl) (by simp) (AllReadyH.cons rfl (fun K hK => ?_) AllReadyH.nil)
    go_simp
    have ba := bl_alloc (Below.refl w4.heap.size w4) (.cells dz 33)
    have KA := Lib.hid (heap_alloc_new w4 (.cells dz 33))
    have O5 := Lib.hid (show OwnZ (w4.alloc (.cells dz 33)) wd.heap.size (.slice A4 n4 c4) X from owns_keep O4.out (fun i hi => ba.block i (OwnZ.own O4.out i hi).2))
    have BL5 := Lib.hid (bl_trans BL4.out ba)
    have HGR := Lib.hid BL4.out.size
    have hS1 := (ba.block g (Array.getElem?_eq_some_iff.1 hHeld).1).trans hHeld
    refine hK.out _ _ hS1 (fun hHeld => ?_)
    clear hK K hS1 ba O4 BL4
    generalize w4.alloc (.cells dz 33) = w5 at *
    generalize w4.heap.size = gR at *
    try simp only [zzA, zzB, zzC, Act.put, zzD, zzE, zzF]
    refine wpAnyH_ready (rs := [7]) (by kernel_rfl) (by simp) (AllReadyH.cons rfl (fun K hK => ?_) AllReadyH.nil)
    rw [if_pos (by rfl)]
    refine wp_store_row 33 _ _ rfl gR (mkT cl [.slice none 0 0, .slice A4 n4 c4]) rfl rfl 33 _ KA.out (by rw [sizeD, mkT_size]; rfl) (by rw [dz_size, mkT_size]; rfl) (mkT_one _ _ _ _ _ _ _) ?_
    have k6 := setRow_heap _ _ _ (mkT cl [.slice none 0 0, .slice A4 n4 c4]) _ _ KA.out
    have hgne : g ≠ gR := by have := HGR.out; have := HS0.out; omega
    have hS1 := (setRow_other w5 gR g (mkT cl [.slice none 0 0, .slice A4 n4 c4]) hgne).trans hHeld
    have O9 := Lib.hid (show OwnZ (w5.setRow gR (mkT cl [.slice none 0 0, .slice A4 n4 c4])) w0.heap.size (.slice A4 n4 c4) X from owns_mono (owns_keep O5.out (fun i hi => setRow_other _ _ _ _ (fun e => by subst e; exact own_neD O5.out KA.out (by decide) hi))) HSD.out)
    have BL := Lib.hid (bl_setRow BL5.out HGR.out (mkT cl [.slice none 0 0, .slice A4 n4 c4]))
    have KR := Lib.hid k6
    refine hK.out _ _ hS1 (fun hHeld => ?_)
    clear hK K hS1 k6 O5 BL5 KA hHeld hgne
    generalize w5.setRow gR (mkT cl [.slice none 0 0, .slice A4 n4 c4]) = w6 at *
    try simp only [zzA, zzB, zzC, Act.put, zzD, zzE, zzF]
    refine wpAnyH_done (by kernel_rfl) ?_ _
    go_wp2_with fail
    go_loopw [4] (fun vi wr => ∃ (k : Nat) (vT : Value), k ≤ nn ∧ vi = .int .i64 (k : Int) ∧ Hid (wr.heap[gR]? = some (.cells (mkT cl [vT, .slice A4 n4 c4]) 33 (0, 0))) ∧ Hid (RowsZ wr w0.heap.size vT (T.take k) (fun _ => False)) ∧ Hid (OwnZ wr w0.heap.size (.slice A4 n4 c4) X) ∧ Hid (Below w0.heap.size w0 wr)) (fun vi _ => nn - (intOf vi).toNat)
    case atStart => exact ⟨0, .slice none 0 0, Nat.zero_le _, rfl, KR.out, rows_nil _ _ _, O9.out, BL.out⟩
    case round =>
      obtain ⟨k, vT, hk, rfl, KR2, RT2, O2, BL2⟩ := hrel
      have M3 := Lib.hid (M0.out.then BL2.out)
      have a1 := M3.out.next
      by_cases hlt : k < nn
      · have hkl : k < T.length := by rw [HN.out]; exact hlt
        obtain ⟨ad, hA, B9, m9, d9, hc9, hm9, hmd9, hr9⟩ := M3.out.row hkl
        subst hA
        obtain ⟨ad0, hA0, B0', m0', d0', hc0', _⟩ := M0.out.row hkl
        obtain rfl := Option.some.inj hA0
        have HAB := Lib.hid (show ad.block < w0.heap.size from by have := World.block_lt_of_cell? w0 _ hc0'; rwa [add_block] at this)
        clear hc0'
        have hrb9 : m9 * 8 ≤ 140737488355328 := by rw [← hm9]; exact HRB.out _ (List.getElem_mem hkl)
        have HTK := Lib.hid (show T.take (k + 1) = T.take k ++ [T[k]] from List.take_succ_eq_append_getElem hkl)
        have HTL := Lib.hid (show (T.take k).length = k by rw [List.length_take, HN.out]; omega)
        have i1 : (k : Int) < (nn : Int) := by omega
        generalize T[k] = row at *
        generalize T.take k = P at *
        obtain ⟨ev, hev⟩ : ∃ q, mkT cl [vT, .slice A4 n4 c4] = q := ⟨_, rfl⟩
        have HEV := Lib.hid hev
        rw [hev] at KR2
        clear hev hkl
        have HR9 := Lib.hid hr9
        have HM9 := Lib.hid hm9
        clear hr9 hm9
        go_wp2_with fail
        refine wp_region_held_drew (S := fun W' => W'.heap[g]? = some (.cells dv 33 (0, 0)) ∧ W'.cell? (ad.add k) = some (.slice B9 m9 d9)) (by kernel_rfl) ⟨M3.out.box, hc9⟩ (fun hHeld => ?_)
        have KD := Lib.hid (show wr.drew.heap[gR]? = some (.cells ev 33 (0, 0)) from KR2.out)
        have RD := Lib.hid (show RowsZ wr.drew w0.heap.size vT P (fun _ => False) from RT2.out)
        have OD := Lib.hid (show OwnZ wr.drew w0.heap.size (.slice A4 n4 c4) X from O2.out)
        have BD := Lib.hid (bl_trans BL2.out (Below.drew (Below.refl wr.heap.size wr)))
        have R9D := Lib.hid (HR9.out.below (Below.drew (Below.refl wr.heap.size wr)))
        clear hc9 a1 M3 KR2 RT2 O2 BL2 HR9
        generalize wr.drew = wd at *
        try simp only [zzA, zzB, zzC, Act.put, zzD, zzE, zzF]
        refine wpAnyH_take (i := 0) (v := ?vzca0) rfl (by kernel_rfl) (by kernel_rfl) (by kernel_rfl) (fun _ _ _ h => h) (Or.inl ⟨by rfl, ?yzca0⟩) hHeld ?rzca0
        case yzca0 => (intro wS hSw; clear hSw; go_simp; try (with_reducible rfl))
        try simp only [zzA, zzB, zzC, Act.put, zzD, zzE, zzF]
        refine wpAnyH_take (i := 2) (v := ?vzca2) rfl (by kernel_rfl) (by kernel_rfl) (by kernel_rfl) (fun _ _ _ h => h) (Or.inl ⟨by rfl, ?yzca2⟩) hHeld ?rzca2
        case yzca2 => (intro wS hSw; clear hSw; go_simp; try (with_reducible rfl))
        try simp only [zzA, zzB, zzC, Act.put, zzD, zzE, zzF]
        refine wpAnyH_take (i := 3) (v := ?vzca3) rfl (by kernel_rfl) (by kernel_rfl) (by kernel_rfl) (fun _ _ _ h => h) (Or.inl ⟨by rfl, ?yzca3⟩) hHeld ?rzca3
        case yzca3 => (intro wS hSw; have q1 := HNX1.out wS hSw.1; clear hSw; go_simp; try (with_reducible rfl))
        try simp only [zzA, zzB, zzC, Act.put, zzD, zzE, zzF]
        refine wpAnyH_take (i := 4) (v := ?vzca4) rfl (by kernel_rfl) (by kernel_rfl) (by kernel_rfl) (fun _ _ _ h => h) (Or.inl ⟨by rfl, ?yzca4⟩) hHeld ?rzca4
        case yzca4 => (intro wS hSw; clear hSw; go_simp; try (with_reducible rfl))
        try simp only [zzA, zzB, zzC, Act.put, zzD, zzE, zzF]
        refine wpAnyH_take (i := 5) (v := ?vzca5) rfl (by kernel_rfl) (by kernel_rfl) (by kernel_rfl) (fun _ _ _ h => h) (Or.inl ⟨by rfl, ?yzca5⟩) hHeld ?rzca5
        case yzca5 => (intro wS hSw; clear hSw; go_simp; try (with_reducible rfl))
        try simp only [zzA, zzB, zzC, Act.put, zzD, zzE, zzF]
        refine wpAnyH_take (i := 6) (v := ?vzca6) rfl (by kernel_rfl) (by kernel_rfl) (by kernel_rfl) (fun _ _ _ h => h) (Or.inl ⟨by rfl, ?yzca6⟩) hHeld ?rzca6
        case yzca6 => (intro wS hSw; have q1 := hSw.2; clear hSw; go_simp; try (with_reducible rfl))
        try simp only [zzA, zzB, zzC, Act.put, zzD, zzE, zzF]
        refine wpAnyH_ready (rs := [1, 7]) (by kernel_rfl) (by simp) (AllReadyH.cons rfl (fun K hK => ?_) (AllReadyH.cons rfl (fun K hK => ?_) AllReadyH.nil))
        · skip
          have c0 : wd.cell? ⟨gR, 256, none⟩ = some vT := (cell_of_row wd gR 256 _ _ _ KD.out).trans (by rw [← HEV.out]; exact mkT_at _ _ 0)
          go_simp
          refine hK.out _ _ hHeld (fun hHeld => ?_)
          clear hK K c0
          try simp only [zzA, zzB, zzC, Act.put, zzD, zzE, zzF]
          refine wpAnyH_ready (rs := [7]) (by kernel_rfl) (by simp) (AllReadyH.cons rfl (fun K hK => ?_) AllReadyH.nil)
          go_simp
          go_at_call 36
          refine (copyz_any row B9 m9 d9 HM9.out hrb9 wd R9D.out).mono ?_
          rintro e w4 ⟨v4, rfl, ho, hb⟩
          obtain ⟨B4, m4, d4, e4, hm4, hd4, hr4⟩ := ho.rdz
          subst e4
          have O4 := Lib.hid ho
          have HM4 := Lib.hid hm4.out
          have HR4 := Lib.hid hr4
          have HD4 := Lib.hid hd4
          have HS4 := Lib.hid hb.size
          have K4 := Lib.hid ((hb.block gR (Array.getElem?_eq_some_iff.1 KD.out).1).trans KD.out)
          have R4 := Lib.hid (RD.out.keep (fun i hi => hb.block i (RD.out.own i hi).2) (fun i cs h1 h2 _ _ => hb.block i h2))
          have P4 := Lib.hid (show OwnZ w4 w0.heap.size (.slice A4 n4 c4) X from owns_keep OD.out (fun i hi => hb.block i (OwnZ.own OD.out i hi).2))
          have B4x := Lib.hid (bl_trans BD.out hb)
          have HLE := Lib.hid BD.out.size
          have hS1 : w4.heap[g]? = some (.cells dv 33 (0, 0)) ∧ w4.cell? (ad.add k) = some (.slice B9 m9 d9) := ⟨(hb.block g (Array.getElem?_eq_some_iff.1 hHeld.1).1).trans hHeld.1, (hb.cell (World.block_lt_of_cell? _ _ hHeld.2)).trans hHeld.2⟩
          clear hHeld hb ho hm4 hr4 hd4 KD RD OD BD
          go_wp2_with fail
          refine hK.out _ _ hS1 (fun hHeld => ?_)
          clear hK K hS1 R9D
          have KD := K4
          have RD := R4
          have OD := P4
          have BD := B4x
          clear K4 R4 P4 B4x
          try simp only [zzA, zzB, zzC, Act.put, zzD, zzE, zzF]
          refine wpAnyH_ready (rs := [8]) (by kernel_rfl) (by simp) (AllReadyH.cons rfl (fun K hK => ?_) AllReadyH.nil)
          go_simp
          have ba := bl_alloc (Below.refl w4.heap.size w4) (.cells #[.slice B4 m4 d4] 23)
          have KL := Lib.hid (cell_of_row _ w4.heap.size 0 _ _ _ (heap_alloc_new w4 (.cells #[.slice B4 m4 d4] 23)))
          have K5 := Lib.hid ((ba.block gR (Array.getElem?_eq_some_iff.1 KD.out).1).trans KD.out)
          have R5 := Lib.hid (RD.out.keep (fun i hi => ba.block i (RD.out.own i hi).2) (fun i cs h1 h2 _ _ => ba.block i h2))
          have P5 := Lib.hid (show OwnZ (w4.alloc (.cells #[.slice B4 m4 d4] 23)) w0.heap.size (.slice A4 n4 c4) X from owns_keep OD.out (fun i hi => ba.block i (OwnZ.own OD.out i hi).2))
          have Q5 := Lib.hid (show OwnZ (w4.alloc (.cells #[.slice B4 m4 d4] 23)) wd.heap.size (.slice B4 m4 d4) row from owns_keep O4.out (fun i hi => ba.block i (OwnZ.own O4.out i hi).2))
          have HR5 := Lib.hid (HR4.out.below ba)
          have B5x := Lib.hid (bl_trans BD.out ba)
          have hS1 : (w4.alloc (.cells #[.slice B4 m4 d4] 23)).heap[g]? = some (.cells dv 33 (0, 0)) ∧ (w4.alloc (.cells #[.slice B4 m4 d4] 23)).cell? (ad.add k) = some (.slice B9 m9 d9) := ⟨(ba.block g (Array.getElem?_eq_some_iff.1 hHeld.1).1).trans hHeld.1, (ba.cell (World.block_lt_of_cell? _ _ hHeld.2)).trans hHeld.2⟩
          refine hK.out _ _ hS1 (fun hHeld => ?_)
          clear hK K hS1 ba KD RD OD BD O4 HR4
          have KD := K5
          have RD := R5
          have OD := P5
          have BD := B5x
          clear K5 R5 P5 B5x
          generalize w4.alloc (.cells #[.slice B4 m4 d4] 23) = w5 at *
          generalize w4.heap.size = pL at *
          try simp only [zzA, zzB, zzC, Act.put, zzD, zzE, zzF]
          refine wpAnyH_ready (rs := [9]) (by kernel_rfl) (by simp) (AllReadyH.cons rfl (fun K hK => ?_) AllReadyH.nil)
          rw [if_pos (by rfl)]
          obtain ⟨vals, a1, a2, a3⟩ := RD.out
          obtain ⟨i0, hi0, hz0, hz1, hz2⟩ := info_parts info_ints
          have hPl : P.length = k := HTL.out
          have hw5 := BD.out.size
          obtain ⟨g8, c8, w8, hrun, ho8, hg8, hat8, hlt8⟩ := run_append_lies (P := Tryz.prog) w5 31 31 w0.heap.size 23 i0 (.slice none 0 0) 1 24 Tryz.underlying31 hi0 hz0 hz1 hz2 rfl (by omega) vT P.length vals a1 ⟨pL, 0, none⟩ 1 1 [.slice B4 m4 d4] rfl (fun j u hu => by
            match j, hu with
            | 0, hu =>
              simp at hu
              subst hu
              exact KL.out) (by simp [Value.oneCell']) (by omega) (by simp only [maxLen]; omega) (by omega) hw5 _ rfl
          refine wp_append_of_run _ _ 31 rfl vT (.slice (some ⟨pL, 0, none⟩) 1 1) rfl rfl hrun ?_
          clear hPl
          have hne : ∀ i (cs : Array Value) (t : TypeId) (z : Nat × Nat), w5.heap[i]? = some (.cells cs t z) → t ≠ 23 → some i ≠ vT.ownBlock := fun i cs t z hi ht e2 => by
            rcases a1.2 with ⟨e4, _⟩ | ⟨g4, cap4, cur4, e4, _, hg4, _⟩
            · rw [e4] at e2; exact own_none i e2.symm
            · rw [e4] at e2
              obtain rfl : i = g4 := Option.some.inj e2
              exact ne_typ hi hg4 ht rfl
          have hk8 : w8.heap[gR]? = some (.cells ev 33 (0, 0)) := (hg8.block gR (Array.getElem?_eq_some_iff.1 KD.out).1 (hne _ _ _ _ KD.out (by decide))).trans KD.out
          have hq8 : ∀ p, B4 = some p → w8.heap[p.block]? = w5.heap[p.block]? ∧ w0.heap.size ≤ p.block ∧ ∃ cs, w5.heap[p.block]? = some (.cells cs 3 (0, 0)) := fun p e => by
            rcases Q5.out.2 with ⟨e4, _⟩ | ⟨g4, cap4, cur4, e4, hb4, hg4, _⟩
            · injection e4 with e5
              rw [e] at e5
              cases e5
            · injection e4 with e5
              rw [e] at e5
              have e6 := Option.some.inj e5
              subst e6
              exact ⟨hg8.block g4 (Array.getElem?_eq_some_iff.1 hg4).1 (hne _ _ _ _ hg4 (by decide)), Nat.le_trans HLE.out hb4, _, hg4⟩
          have hrz := RowsZ.snoc (W := w5) (W' := w8) (n1 := w0.heap.size) (v := vT) (T := P) (ex' := fun _ => False) a1 a2 a3 hg8 ho8 HM4.out HD4.out (own_cap Q5.out) (fun j hj => by
            obtain ⟨p, e, hc⟩ := HR5.out j hj
            exact ⟨p, e, cell_keep (by rw [add_block]; exact (hq8 p e).1) hc⟩) (fun p e => ⟨(hq8 p e).2.1, id, by obtain ⟨cs, hcs⟩ := (hq8 p e).2.2; exact ⟨cs, (hq8 p e).1.trans hcs⟩⟩) (fun i _ h => h)
          have ho8' : OwnZ w8 w0.heap.size (.slice A4 n4 c4) X := owns_keep OD.out (fun i hi => by
            rcases OD.out.2 with ⟨e4, _⟩ | ⟨g4, cap4, cur4, e4, hb4, hg4, _⟩
            · rw [e4] at hi; exact absurd hi (own_none i)
            · rw [e4] at hi
              obtain rfl : g4 = i := Option.some.inj hi
              exact hg8.block g4 (Array.getElem?_eq_some_iff.1 hg4).1 (hne _ _ _ _ hg4 (by decide)))
          have hbl8 := bl_grown BD.out hg8 (fun i e => (World.ownsRow.lt a1 i e).1)
          have hS1 : w8.heap[g]? = some (.cells dv 33 (0, 0)) ∧ w8.cell? (ad.add k) = some (.slice B9 m9 d9) := ⟨(hg8.block g (Array.getElem?_eq_some_iff.1 hHeld.1).1 (hne _ _ _ _ hHeld.1 (by decide))).trans hHeld.1, (cell_keep (p := ad.add k) (by rw [add_block]; exact (hbl8.block ad.block HAB.out).trans (BD.out.block ad.block HAB.out).symm) hHeld.2)⟩
          have K8 := Lib.hid hk8
          have R8 := Lib.hid hrz
          have O8 := Lib.hid ho8'
          have BL8 := Lib.hid hbl8
          clear hrun a1 a2 a3 hne hk8 hq8 hrz ho8' hbl8 KD RD OD BD Q5 HR5 KL ho8 hg8 hat8
          refine hK.out _ _ hS1 (fun hHeld => ?_)
          clear hK K hS1
          try simp only [zzA, zzB, zzC, Act.put, zzD, zzE, zzF]
          refine wpAnyH_take (i := 10) (v := ?vzya14310) rfl (by kernel_rfl) (by kernel_rfl) (by kernel_rfl) (fun _ _ _ h => h) (Or.inl ⟨by rfl, ?yzya14310⟩) hHeld ?rzya14310
          case yzya14310 => (intro wS hSw; clear hSw; go_simp; try (with_reducible rfl))
          try simp only [zzA, zzB, zzC, Act.put, zzD, zzE, zzF]
          refine wpAnyH_ready (rs := [11]) (by kernel_rfl) (by simp) (AllReadyH.cons rfl (fun K hK => ?_) AllReadyH.nil)
          have c0 := cell_of_row w8 gR 256 _ _ _ K8.out
          have z0 : w8.frozen? ⟨gR, 256, none⟩ = false := frozen_of_row w8 gR 256 _ _ K8.out
          rw [show ev[256]? = some vT from by rw [← HEV.out]; exact mkT_at _ _ 0] at c0
          go_simp
          have hgne : g ≠ gR := by have := HGR.out; have := HS0.out; omega
          have hS1 : (w8.setCell ⟨gR, 256, none⟩ (.slice (some ⟨g8, 0, none⟩) (P.length + 1) c8)).heap[g]? = some (.cells dv 33 (0, 0)) ∧ (w8.setCell ⟨gR, 256, none⟩ (.slice (some ⟨g8, 0, none⟩) (P.length + 1) c8)).cell? (ad.add k) = some (.slice B9 m9 d9) := ⟨(set_keep _ _ _ _ _ hgne).trans hHeld.1, cell_keep (p := ad.add k) (by rw [add_block]; exact set_keep _ _ _ _ _ (by have h1 := HAB.out; have h2 := HGR.out; omega)) hHeld.2⟩
          refine hK.out _ _ hS1 (fun hHeld => ?_)
          clear hK K hS1 c0 z0
          have k9 := heap_setCell_same w8 gR 256 _ _ (.slice (some ⟨g8, 0, none⟩) (P.length + 1) c8) K8.out
          rw [show ev.setIfInBounds 256 (.slice (some ⟨g8, 0, none⟩) (P.length + 1) c8) = mkT cl [.slice (some ⟨g8, 0, none⟩) (P.length + 1) c8, .slice A4 n4 c4] from by rw [← HEV.out]; exact mkT_set cl [vT, .slice A4 n4 c4] 0 (.slice (some ⟨g8, 0, none⟩) (P.length + 1) c8)] at k9
          have r9 := R8.out.setbox K8.out 256 (.slice (some ⟨g8, 0, none⟩) (P.length + 1) c8)
          have o9 := OwnZ.setbox O8.out K8.out 256 (.slice (some ⟨g8, 0, none⟩) (P.length + 1) c8)
          have b9 := bl_grown BL8.out (grown_set w8 gR 256 (.slice (some ⟨g8, 0, none⟩) (P.length + 1) c8)) (fun i e => by obtain rfl := Option.some.inj e; exact HGR.out)
          have K9 := Lib.hid k9
          have R9 := Lib.hid r9
          have O9' := Lib.hid o9
          have B9' := Lib.hid b9
          clear k9 r9 o9 b9 hHeld hgne
          try simp only [zzA, zzB, zzC, Act.put, zzD, zzE, zzF]
          refine wpAnyH_done (by kernel_rfl) ?_ _
          go_wp2_with fail
          refine ⟨⟨k + 1, _, by omega, by go_num, K9.out, by rw [HTK.out]; exact R9.out, O9'.out, B9'.out⟩, by simp [intOf]; omega⟩
        · skip
          go_simp
          go_at_call 36
          refine (copyz_any row B9 m9 d9 HM9.out hrb9 wd R9D.out).mono ?_
          rintro e w4 ⟨v4, rfl, ho, hb⟩
          obtain ⟨B4, m4, d4, e4, hm4, hd4, hr4⟩ := ho.rdz
          subst e4
          have O4 := Lib.hid ho
          have HM4 := Lib.hid hm4.out
          have HR4 := Lib.hid hr4
          have HD4 := Lib.hid hd4
          have HS4 := Lib.hid hb.size
          have K4 := Lib.hid ((hb.block gR (Array.getElem?_eq_some_iff.1 KD.out).1).trans KD.out)
          have R4 := Lib.hid (RD.out.keep (fun i hi => hb.block i (RD.out.own i hi).2) (fun i cs h1 h2 _ _ => hb.block i h2))
          have P4 := Lib.hid (show OwnZ w4 w0.heap.size (.slice A4 n4 c4) X from owns_keep OD.out (fun i hi => hb.block i (OwnZ.own OD.out i hi).2))
          have B4x := Lib.hid (bl_trans BD.out hb)
          have HLE := Lib.hid BD.out.size
          have hS1 : w4.heap[g]? = some (.cells dv 33 (0, 0)) ∧ w4.cell? (ad.add k) = some (.slice B9 m9 d9) := ⟨(hb.block g (Array.getElem?_eq_some_iff.1 hHeld.1).1).trans hHeld.1, (hb.cell (World.block_lt_of_cell? _ _ hHeld.2)).trans hHeld.2⟩
          clear hHeld hb ho hm4 hr4 hd4 KD RD OD BD
          go_wp2_with fail
          refine hK.out _ _ hS1 (fun hHeld => ?_)
          clear hK K hS1 R9D
          have KD := K4
          have RD := R4
          have OD := P4
          have BD := B4x
          clear K4 R4 P4 B4x
          try simp only [zzA, zzB, zzC, Act.put, zzD, zzE, zzF]
          refine wpAnyH_ready (rs := [1, 8]) (by kernel_rfl) (by simp) (AllReadyH.cons rfl (fun K hK => ?_) (AllReadyH.cons rfl (fun K hK => ?_) AllReadyH.nil))
          · skip
            have c0 : w4.cell? ⟨gR, 256, none⟩ = some vT := (cell_of_row w4 gR 256 _ _ _ KD.out).trans (by rw [← HEV.out]; exact mkT_at _ _ 0)
            go_simp
            refine hK.out _ _ hHeld (fun hHeld => ?_)
            clear hK K c0
            try simp only [zzA, zzB, zzC, Act.put, zzD, zzE, zzF]
            refine wpAnyH_ready (rs := [8]) (by kernel_rfl) (by simp) (AllReadyH.cons rfl (fun K hK => ?_) AllReadyH.nil)
            go_simp
            have ba := bl_alloc (Below.refl w4.heap.size w4) (.cells #[.slice B4 m4 d4] 23)
            have KL := Lib.hid (cell_of_row _ w4.heap.size 0 _ _ _ (heap_alloc_new w4 (.cells #[.slice B4 m4 d4] 23)))
            have K5 := Lib.hid ((ba.block gR (Array.getElem?_eq_some_iff.1 KD.out).1).trans KD.out)
            have R5 := Lib.hid (RD.out.keep (fun i hi => ba.block i (RD.out.own i hi).2) (fun i cs h1 h2 _ _ => ba.block i h2))
            have P5 := Lib.hid (show OwnZ (w4.alloc (.cells #[.slice B4 m4 d4] 23)) w0.heap.size (.slice A4 n4 c4) X from owns_keep OD.out (fun i hi => ba.block i (OwnZ.own OD.out i hi).2))
            have Q5 := Lib.hid (show OwnZ (w4.alloc (.cells #[.slice B4 m4 d4] 23)) wd.heap.size (.slice B4 m4 d4) row from owns_keep O4.out (fun i hi => ba.block i (OwnZ.own O4.out i hi).2))
            have HR5 := Lib.hid (HR4.out.below ba)
            have B5x := Lib.hid (bl_trans BD.out ba)
            have hS1 : (w4.alloc (.cells #[.slice B4 m4 d4] 23)).heap[g]? = some (.cells dv 33 (0, 0)) ∧ (w4.alloc (.cells #[.slice B4 m4 d4] 23)).cell? (ad.add k) = some (.slice B9 m9 d9) := ⟨(ba.block g (Array.getElem?_eq_some_iff.1 hHeld.1).1).trans hHeld.1, (ba.cell (World.block_lt_of_cell? _ _ hHeld.2)).trans hHeld.2⟩
            refine hK.out _ _ hS1 (fun hHeld => ?_)
            clear hK K hS1 ba KD RD OD BD O4 HR4
            have KD := K5
            have RD := R5
            have OD := P5
            have BD := B5x
            clear K5 R5 P5 B5x
            generalize w4.alloc (.cells #[.slice B4 m4 d4] 23) = w5 at *
            generalize w4.heap.size = pL at *
            try simp only [zzA, zzB, zzC, Act.put, zzD, zzE, zzF]
            refine wpAnyH_ready (rs := [9]) (by kernel_rfl) (by simp) (AllReadyH.cons rfl (fun K hK => ?_) AllReadyH.nil)
            rw [if_pos (by rfl)]
            obtain ⟨vals, a1, a2, a3⟩ := RD.out
            obtain ⟨i0, hi0, hz0, hz1, hz2⟩ := info_parts info_ints
            have hPl : P.length = k := HTL.out
            have hw5 := BD.out.size
            obtain ⟨g8, c8, w8, hrun, ho8, hg8, hat8, hlt8⟩ := run_append_lies (P := Tryz.prog) w5 31 31 w0.heap.size 23 i0 (.slice none 0 0) 1 24 Tryz.underlying31 hi0 hz0 hz1 hz2 rfl (by omega) vT P.length vals a1 ⟨pL, 0, none⟩ 1 1 [.slice B4 m4 d4] rfl (fun j u hu => by
              match j, hu with
              | 0, hu =>
                simp at hu
                subst hu
                exact KL.out) (by simp [Value.oneCell']) (by omega) (by simp only [maxLen]; omega) (by omega) hw5 _ rfl
            refine wp_append_of_run _ _ 31 rfl vT (.slice (some ⟨pL, 0, none⟩) 1 1) rfl rfl hrun ?_
            clear hPl
            have hne : ∀ i (cs : Array Value) (t : TypeId) (z : Nat × Nat), w5.heap[i]? = some (.cells cs t z) → t ≠ 23 → some i ≠ vT.ownBlock := fun i cs t z hi ht e2 => by
              rcases a1.2 with ⟨e4, _⟩ | ⟨g4, cap4, cur4, e4, _, hg4, _⟩
              · rw [e4] at e2; exact own_none i e2.symm
              · rw [e4] at e2
                obtain rfl : i = g4 := Option.some.inj e2
                exact ne_typ hi hg4 ht rfl
            have hk8 : w8.heap[gR]? = some (.cells ev 33 (0, 0)) := (hg8.block gR (Array.getElem?_eq_some_iff.1 KD.out).1 (hne _ _ _ _ KD.out (by decide))).trans KD.out
            have hq8 : ∀ p, B4 = some p → w8.heap[p.block]? = w5.heap[p.block]? ∧ w0.heap.size ≤ p.block ∧ ∃ cs, w5.heap[p.block]? = some (.cells cs 3 (0, 0)) := fun p e => by
              rcases Q5.out.2 with ⟨e4, _⟩ | ⟨g4, cap4, cur4, e4, hb4, hg4, _⟩
              · injection e4 with e5
                rw [e] at e5
                cases e5
              · injection e4 with e5
                rw [e] at e5
                have e6 := Option.some.inj e5
                subst e6
                exact ⟨hg8.block g4 (Array.getElem?_eq_some_iff.1 hg4).1 (hne _ _ _ _ hg4 (by decide)), Nat.le_trans HLE.out hb4, _, hg4⟩
            have hrz := RowsZ.snoc (W := w5) (W' := w8) (n1 := w0.heap.size) (v := vT) (T := P) (ex' := fun _ => False) a1 a2 a3 hg8 ho8 HM4.out HD4.out (own_cap Q5.out) (fun j hj => by
              obtain ⟨p, e, hc⟩ := HR5.out j hj
              exact ⟨p, e, cell_keep (by rw [add_block]; exact (hq8 p e).1) hc⟩) (fun p e => ⟨(hq8 p e).2.1, id, by obtain ⟨cs, hcs⟩ := (hq8 p e).2.2; exact ⟨cs, (hq8 p e).1.trans hcs⟩⟩) (fun i _ h => h)
            have ho8' : OwnZ w8 w0.heap.size (.slice A4 n4 c4) X := owns_keep OD.out (fun i hi => by
              rcases OD.out.2 with ⟨e4, _⟩ | ⟨g4, cap4, cur4, e4, hb4, hg4, _⟩
              · rw [e4] at hi; exact absurd hi (own_none i)
              · rw [e4] at hi
                obtain rfl : g4 = i := Option.some.inj hi
                exact hg8.block g4 (Array.getElem?_eq_some_iff.1 hg4).1 (hne _ _ _ _ hg4 (by decide)))
            have hbl8 := bl_grown BD.out hg8 (fun i e => (World.ownsRow.lt a1 i e).1)
            have hS1 : w8.heap[g]? = some (.cells dv 33 (0, 0)) ∧ w8.cell? (ad.add k) = some (.slice B9 m9 d9) := ⟨(hg8.block g (Array.getElem?_eq_some_iff.1 hHeld.1).1 (hne _ _ _ _ hHeld.1 (by decide))).trans hHeld.1, (cell_keep (p := ad.add k) (by rw [add_block]; exact (hbl8.block ad.block HAB.out).trans (BD.out.block ad.block HAB.out).symm) hHeld.2)⟩
            have K8 := Lib.hid hk8
            have R8 := Lib.hid hrz
            have O8 := Lib.hid ho8'
            have BL8 := Lib.hid hbl8
            clear hrun a1 a2 a3 hne hk8 hq8 hrz ho8' hbl8 KD RD OD BD Q5 HR5 KL ho8 hg8 hat8
            refine hK.out _ _ hS1 (fun hHeld => ?_)
            clear hK K hS1
            try simp only [zzA, zzB, zzC, Act.put, zzD, zzE, zzF]
            refine wpAnyH_take (i := 10) (v := ?vzya27010) rfl (by kernel_rfl) (by kernel_rfl) (by kernel_rfl) (fun _ _ _ h => h) (Or.inl ⟨by rfl, ?yzya27010⟩) hHeld ?rzya27010
            case yzya27010 => (intro wS hSw; clear hSw; go_simp; try (with_reducible rfl))
            try simp only [zzA, zzB, zzC, Act.put, zzD, zzE, zzF]
            refine wpAnyH_ready (rs := [11]) (by kernel_rfl) (by simp) (AllReadyH.cons rfl (fun K hK => ?_) AllReadyH.nil)
            have c0 := cell_of_row w8 gR 256 _ _ _ K8.out
            have z0 : w8.frozen? ⟨gR, 256, none⟩ = false := frozen_of_row w8 gR 256 _ _ K8.out
            rw [show ev[256]? = some vT from by rw [← HEV.out]; exact mkT_at _ _ 0] at c0
            go_simp
            have hgne : g ≠ gR := by have := HGR.out; have := HS0.out; omega
            have hS1 : (w8.setCell ⟨gR, 256, none⟩ (.slice (some ⟨g8, 0, none⟩) (P.length + 1) c8)).heap[g]? = some (.cells dv 33 (0, 0)) ∧ (w8.setCell ⟨gR, 256, none⟩ (.slice (some ⟨g8, 0, none⟩) (P.length + 1) c8)).cell? (ad.add k) = some (.slice B9 m9 d9) := ⟨(set_keep _ _ _ _ _ hgne).trans hHeld.1, cell_keep (p := ad.add k) (by rw [add_block]; exact set_keep _ _ _ _ _ (by have h1 := HAB.out; have h2 := HGR.out; omega)) hHeld.2⟩
            refine hK.out _ _ hS1 (fun hHeld => ?_)
            clear hK K hS1 c0 z0
            have k9 := heap_setCell_same w8 gR 256 _ _ (.slice (some ⟨g8, 0, none⟩) (P.length + 1) c8) K8.out
            rw [show ev.setIfInBounds 256 (.slice (some ⟨g8, 0, none⟩) (P.length + 1) c8) = mkT cl [.slice (some ⟨g8, 0, none⟩) (P.length + 1) c8, .slice A4 n4 c4] from by rw [← HEV.out]; exact mkT_set cl [vT, .slice A4 n4 c4] 0 (.slice (some ⟨g8, 0, none⟩) (P.length + 1) c8)] at k9
            have r9 := R8.out.setbox K8.out 256 (.slice (some ⟨g8, 0, none⟩) (P.length + 1) c8)
            have o9 := OwnZ.setbox O8.out K8.out 256 (.slice (some ⟨g8, 0, none⟩) (P.length + 1) c8)
            have b9 := bl_grown BL8.out (grown_set w8 gR 256 (.slice (some ⟨g8, 0, none⟩) (P.length + 1) c8)) (fun i e => by obtain rfl := Option.some.inj e; exact HGR.out)
            have K9 := Lib.hid k9
            have R9 := Lib.hid r9
            have O9' := Lib.hid o9
            have B9' := Lib.hid b9
            clear k9 r9 o9 b9 hHeld hgne
            try simp only [zzA, zzB, zzC, Act.put, zzD, zzE, zzF]
            refine wpAnyH_done (by kernel_rfl) ?_ _
            go_wp2_with fail
            refine ⟨⟨k + 1, _, by omega, by go_num, K9.out, by rw [HTK.out]; exact R9.out, O9'.out, B9'.out⟩, by simp [intOf]; omega⟩
          · skip
            go_simp
            have ba := bl_alloc (Below.refl w4.heap.size w4) (.cells #[.slice B4 m4 d4] 23)
            have KL := Lib.hid (cell_of_row _ w4.heap.size 0 _ _ _ (heap_alloc_new w4 (.cells #[.slice B4 m4 d4] 23)))
            have K5 := Lib.hid ((ba.block gR (Array.getElem?_eq_some_iff.1 KD.out).1).trans KD.out)
            have R5 := Lib.hid (RD.out.keep (fun i hi => ba.block i (RD.out.own i hi).2) (fun i cs h1 h2 _ _ => ba.block i h2))
            have P5 := Lib.hid (show OwnZ (w4.alloc (.cells #[.slice B4 m4 d4] 23)) w0.heap.size (.slice A4 n4 c4) X from owns_keep OD.out (fun i hi => ba.block i (OwnZ.own OD.out i hi).2))
            have Q5 := Lib.hid (show OwnZ (w4.alloc (.cells #[.slice B4 m4 d4] 23)) wd.heap.size (.slice B4 m4 d4) row from owns_keep O4.out (fun i hi => ba.block i (OwnZ.own O4.out i hi).2))
            have HR5 := Lib.hid (HR4.out.below ba)
            have B5x := Lib.hid (bl_trans BD.out ba)
            have hS1 : (w4.alloc (.cells #[.slice B4 m4 d4] 23)).heap[g]? = some (.cells dv 33 (0, 0)) ∧ (w4.alloc (.cells #[.slice B4 m4 d4] 23)).cell? (ad.add k) = some (.slice B9 m9 d9) := ⟨(ba.block g (Array.getElem?_eq_some_iff.1 hHeld.1).1).trans hHeld.1, (ba.cell (World.block_lt_of_cell? _ _ hHeld.2)).trans hHeld.2⟩
            refine hK.out _ _ hS1 (fun hHeld => ?_)
            clear hK K hS1 ba KD RD OD BD O4 HR4
            have KD := K5
            have RD := R5
            have OD := P5
            have BD := B5x
            clear K5 R5 P5 B5x
            generalize w4.alloc (.cells #[.slice B4 m4 d4] 23) = w5 at *
            generalize w4.heap.size = pL at *
            try simp only [zzA, zzB, zzC, Act.put, zzD, zzE, zzF]
            refine wpAnyH_ready (rs := [1]) (by kernel_rfl) (by simp) (AllReadyH.cons rfl (fun K hK => ?_) AllReadyH.nil)
            have c0 : w5.cell? ⟨gR, 256, none⟩ = some vT := (cell_of_row w5 gR 256 _ _ _ KD.out).trans (by rw [← HEV.out]; exact mkT_at _ _ 0)
            go_simp
            refine hK.out _ _ hHeld (fun hHeld => ?_)
            clear hK K c0
            try simp only [zzA, zzB, zzC, Act.put, zzD, zzE, zzF]
            refine wpAnyH_ready (rs := [9]) (by kernel_rfl) (by simp) (AllReadyH.cons rfl (fun K hK => ?_) AllReadyH.nil)
            rw [if_pos (by rfl)]
            obtain ⟨vals, a1, a2, a3⟩ := RD.out
            obtain ⟨i0, hi0, hz0, hz1, hz2⟩ := info_parts info_ints
            have hPl : P.length = k := HTL.out
            have hw5 := BD.out.size
            obtain ⟨g8, c8, w8, hrun, ho8, hg8, hat8, hlt8⟩ := run_append_lies (P := Tryz.prog) w5 31 31 w0.heap.size 23 i0 (.slice none 0 0) 1 24 Tryz.underlying31 hi0 hz0 hz1 hz2 rfl (by omega) vT P.length vals a1 ⟨pL, 0, none⟩ 1 1 [.slice B4 m4 d4] rfl (fun j u hu => by
              match j, hu with
              | 0, hu =>
                simp at hu
                subst hu
                exact KL.out) (by simp [Value.oneCell']) (by omega) (by simp only [maxLen]; omega) (by omega) hw5 _ rfl
            refine wp_append_of_run _ _ 31 rfl vT (.slice (some ⟨pL, 0, none⟩) 1 1) rfl rfl hrun ?_
            clear hPl
            have hne : ∀ i (cs : Array Value) (t : TypeId) (z : Nat × Nat), w5.heap[i]? = some (.cells cs t z) → t ≠ 23 → some i ≠ vT.ownBlock := fun i cs t z hi ht e2 => by
              rcases a1.2 with ⟨e4, _⟩ | ⟨g4, cap4, cur4, e4, _, hg4, _⟩
              · rw [e4] at e2; exact own_none i e2.symm
              · rw [e4] at e2
                obtain rfl : i = g4 := Option.some.inj e2
                exact ne_typ hi hg4 ht rfl
            have hk8 : w8.heap[gR]? = some (.cells ev 33 (0, 0)) := (hg8.block gR (Array.getElem?_eq_some_iff.1 KD.out).1 (hne _ _ _ _ KD.out (by decide))).trans KD.out
            have hq8 : ∀ p, B4 = some p → w8.heap[p.block]? = w5.heap[p.block]? ∧ w0.heap.size ≤ p.block ∧ ∃ cs, w5.heap[p.block]? = some (.cells cs 3 (0, 0)) := fun p e => by
              rcases Q5.out.2 with ⟨e4, _⟩ | ⟨g4, cap4, cur4, e4, hb4, hg4, _⟩
              · injection e4 with e5
                rw [e] at e5
                cases e5
              · injection e4 with e5
                rw [e] at e5
                have e6 := Option.some.inj e5
                subst e6
                exact ⟨hg8.block g4 (Array.getElem?_eq_some_iff.1 hg4).1 (hne _ _ _ _ hg4 (by decide)), Nat.le_trans HLE.out hb4, _, hg4⟩
            have hrz := RowsZ.snoc (W := w5) (W' := w8) (n1 := w0.heap.size) (v := vT) (T := P) (ex' := fun _ => False) a1 a2 a3 hg8 ho8 HM4.out HD4.out (own_cap Q5.out) (fun j hj => by
              obtain ⟨p, e, hc⟩ := HR5.out j hj
              exact ⟨p, e, cell_keep (by rw [add_block]; exact (hq8 p e).1) hc⟩) (fun p e => ⟨(hq8 p e).2.1, id, by obtain ⟨cs, hcs⟩ := (hq8 p e).2.2; exact ⟨cs, (hq8 p e).1.trans hcs⟩⟩) (fun i _ h => h)
            have ho8' : OwnZ w8 w0.heap.size (.slice A4 n4 c4) X := owns_keep OD.out (fun i hi => by
              rcases OD.out.2 with ⟨e4, _⟩ | ⟨g4, cap4, cur4, e4, hb4, hg4, _⟩
              · rw [e4] at hi; exact absurd hi (own_none i)
              · rw [e4] at hi
                obtain rfl : g4 = i := Option.some.inj hi
                exact hg8.block g4 (Array.getElem?_eq_some_iff.1 hg4).1 (hne _ _ _ _ hg4 (by decide)))
            have hbl8 := bl_grown BD.out hg8 (fun i e => (World.ownsRow.lt a1 i e).1)
            have hS1 : w8.heap[g]? = some (.cells dv 33 (0, 0)) ∧ w8.cell? (ad.add k) = some (.slice B9 m9 d9) := ⟨(hg8.block g (Array.getElem?_eq_some_iff.1 hHeld.1).1 (hne _ _ _ _ hHeld.1 (by decide))).trans hHeld.1, (cell_keep (p := ad.add k) (by rw [add_block]; exact (hbl8.block ad.block HAB.out).trans (BD.out.block ad.block HAB.out).symm) hHeld.2)⟩
            have K8 := Lib.hid hk8
            have R8 := Lib.hid hrz
            have O8 := Lib.hid ho8'
            have BL8 := Lib.hid hbl8
            clear hrun a1 a2 a3 hne hk8 hq8 hrz ho8' hbl8 KD RD OD BD Q5 HR5 KL ho8 hg8 hat8
            refine hK.out _ _ hS1 (fun hHeld => ?_)
            clear hK K hS1
            try simp only [zzA, zzB, zzC, Act.put, zzD, zzE, zzF]
            refine wpAnyH_take (i := 10) (v := ?vzya36810) rfl (by kernel_rfl) (by kernel_rfl) (by kernel_rfl) (fun _ _ _ h => h) (Or.inl ⟨by rfl, ?yzya36810⟩) hHeld ?rzya36810
            case yzya36810 => (intro wS hSw; clear hSw; go_simp; try (with_reducible rfl))
            try simp only [zzA, zzB, zzC, Act.put, zzD, zzE, zzF]
            refine wpAnyH_ready (rs := [11]) (by kernel_rfl) (by simp) (AllReadyH.cons rfl (fun K hK => ?_) AllReadyH.nil)
            have c0 := cell_of_row w8 gR 256 _ _ _ K8.out
            have z0 : w8.frozen? ⟨gR, 256, none⟩ = false := frozen_of_row w8 gR 256 _ _ K8.out
            rw [show ev[256]? = some vT from by rw [← HEV.out]; exact mkT_at _ _ 0] at c0
            go_simp
            have hgne : g ≠ gR := by have := HGR.out; have := HS0.out; omega
            have hS1 : (w8.setCell ⟨gR, 256, none⟩ (.slice (some ⟨g8, 0, none⟩) (P.length + 1) c8)).heap[g]? = some (.cells dv 33 (0, 0)) ∧ (w8.setCell ⟨gR, 256, none⟩ (.slice (some ⟨g8, 0, none⟩) (P.length + 1) c8)).cell? (ad.add k) = some (.slice B9 m9 d9) := ⟨(set_keep _ _ _ _ _ hgne).trans hHeld.1, cell_keep (p := ad.add k) (by rw [add_block]; exact set_keep _ _ _ _ _ (by have h1 := HAB.out; have h2 := HGR.out; omega)) hHeld.2⟩
            refine hK.out _ _ hS1 (fun hHeld => ?_)
            clear hK K hS1 c0 z0
            have k9 := heap_setCell_same w8 gR 256 _ _ (.slice (some ⟨g8, 0, none⟩) (P.length + 1) c8) K8.out
            rw [show ev.setIfInBounds 256 (.slice (some ⟨g8, 0, none⟩) (P.length + 1) c8) = mkT cl [.slice (some ⟨g8, 0, none⟩) (P.length + 1) c8, .slice A4 n4 c4] from by rw [← HEV.out]; exact mkT_set cl [vT, .slice A4 n4 c4] 0 (.slice (some ⟨g8, 0, none⟩) (P.length + 1) c8)] at k9
            have r9 := R8.out.setbox K8.out 256 (.slice (some ⟨g8, 0, none⟩) (P.length + 1) c8)
            have o9 := OwnZ.setbox O8.out K8.out 256 (.slice (some ⟨g8, 0, none⟩) (P.length + 1) c8)
            have b9 := bl_grown BL8.out (grown_set w8 gR 256 (.slice (some ⟨g8, 0, none⟩) (P.length + 1) c8)) (fun i e => by obtain rfl := Option.some.inj e; exact HGR.out)
            have K9 := Lib.hid k9
            have R9 := Lib.hid r9
            have O9' := Lib.hid o9
            have B9' := Lib.hid b9
            clear k9 r9 o9 b9 hHeld hgne
            try simp only [zzA, zzB, zzC, Act.put, zzD, zzE, zzF]
            refine wpAnyH_done (by kernel_rfl) ?_ _
            go_wp2_with fail
            refine ⟨⟨k + 1, _, by omega, by go_num, K9.out, by rw [HTK.out]; exact R9.out, O9'.out, B9'.out⟩, by simp [intOf]; omega⟩
      · obtain rfl : k = nn := by omega
        rw [show T.take k = T from List.take_of_length_le (by rw [HN.out]; exact Nat.le_refl _)] at RT2
        obtain ⟨ev, hev⟩ : ∃ q, mkT cl [vT, .slice A4 n4 c4] = q := ⟨_, rfl⟩
        have HEV := Lib.hid hev
        have hvs := hev
        obtain ⟨At, nt, ct, evT, _⟩ := RT2.out.form
        subst evT
        have hes : ev.size = 258 := by rw [← hev, mkT_size]; rfl
        have heo : ev.all (·.oneCell') = true := by rw [← hev]; exact mkT_one _ _ _ _ _ _ _
        have hel : ev.toList.length = 258 := by rw [Array.length_toList, hes]
        rw [hev] at KR2
        have KB := Lib.hid ((BL2.out.block (g + 1) (by have := HS0.out; omega)).trans KZ.out)
        have LE := Lib.hid (load_dv KR2.out)
        clear hev hvs M3
        go_wp2_with (first | (refine wpList_load_part 33 258 _ rfl rfl ⟨gR, 0, none⟩ rfl ev.toList (aggD _) (szD _) hel LE.out ?_) | (refine wpList_store_row rfl 33 _ _ rfl (g + 1) ev rfl rfl _ _ KB.out (by rw [sizeD, hes]) (by rw [dz_size, hes]) heo ?_))
        have k8 := setRow_heap _ _ _ ev _ _ KB.out
        refine bodyPost_ret (v := .agg ev) (results_cell_row rfl _ _ (g + 1) 33 _ (0, 0) _ rfl k8 Tryz.underlying33 rfl (by rw [sizeD, hes])) rfl (post_is HQ ?_)
        have hs0 := HS0.out
        have B01 : Below W.heap.size W w0 := by rw [HG.out]; exact B00.out
        refine ⟨w0.heap.size, .slice At nt ct, .slice A4 n4 c4, fun _ => False, by rw [HEV.out], by have := HG.out; omega, RT2.out.keep (fun i hi => setRow_other _ _ _ _ (by have := (RT2.out.own i hi).1; omega)) (fun i cs h1 _ _ _ => setRow_other _ _ _ _ (by omega)), owns_keep O2.out (fun i hi => setRow_other _ _ _ _ (by have := (OwnZ.own O2.out i hi).1; omega)), by have h := bl_setRow (bl_trans B01 BL2.out) (show W.heap.size ≤ g + 1 by rw [HG.out]; omega) ev; rw [HG.out] at h; exact h⟩
  · skip
    go_simp
    have ba := bl_alloc (Below.refl wd.heap.size wd) (.cells dz 33)
    have KA := Lib.hid (heap_alloc_new wd (.cells dz 33))
    have BD' := Lib.hid (bl_trans BD.out ba)
    have XD' := Lib.hid (XD.out.below ba)
    have HGR := Lib.hid BD.out.size
    have hS1 := (ba.block g (Array.getElem?_eq_some_iff.1 hHeld).1).trans hHeld
    refine hK.out _ _ hS1 (fun hHeld => ?_)
    clear hK K hS1 ba BD XD
    have BD := BD'
    have XD := XD'
    clear BD' XD'
    try simp only [zzA, zzB, zzC, Act.put, zzD, zzE, zzF]
    refine wpAnyH_ready (rs := [4]) (by kernel_rfl) (by simp) (AllReadyH.cons rfl (fun K hK => ?_) AllReadyH.nil)
    go_simp
    go_at_call 36
    refine (copyz_any X Ax nx cx HNX.out hx2 (wd.alloc (.cells dz 33)) XD.out).mono ?_
    rintro e w4 ⟨v4, rfl, ho, hb⟩
    obtain ⟨A4, n4, c4, e4, hn4, hc4, _⟩ := ho.rdz
    subst e4
    have O4 := Lib.hid ho
    have BL4 := Lib.hid (bl_trans BD.out hb)
    have HSD := Lib.hid BD.out.size
    have hS1 := (hb.block g (Array.getElem?_eq_some_iff.1 hHeld).1).trans hHeld
    have KZ4 := Lib.hid ((hb.block wd.heap.size (Array.getElem?_eq_some_iff.1 KA.out).1).trans KA.out)
    clear KA
    clear hHeld hb ho hn4 BD XD
    go_wp2_with fail
    refine hK.out _ _ hS1 (fun hHeld => ?_)
    clear hK K hS1
    try simp only [zzA, zzB, zzC, Act.put, zzD, zzE, zzF]
    refine wpAnyH_take (i := 5) (v := ?vzb55) rfl (by kernel_rfl) (by kernel_rfl) (by kernel_rfl) (fun _ _ _ h => h) (Or.inl ⟨by rfl, ?yzb55⟩) hHeld ?rzb55
    case yzb55 => (intro wS hSw; clear hSw; go_simp; try (with_reducible rfl))
    try simp only [zzA, zzB, zzC, Act.put, zzD, zzE, zzF]
    have KA := KZ4
    clear HSD
    have HSD := HGR
    have BL5 := BL4
    have O5 := Lib.hid (show OwnZ w4 wd.heap.size (.slice A4 n4 c4) X from owns_mono O4.out (by rw [World.size_alloc]; omega))
    clear KZ4 BL4 O4
    generalize wd.heap.size = gR at *
    refine wpAnyH_ready (rs := [7]) (by kernel_rfl) (by simp) (AllReadyH.cons rfl (fun K hK => ?_) AllReadyH.nil)
    rw [if_pos (by rfl)]
    refine wp_store_row 33 _ _ rfl gR (mkT cl [.slice none 0 0, .slice A4 n4 c4]) rfl rfl 33 _ KA.out (by rw [sizeD, mkT_size]; rfl) (by rw [dz_size, mkT_size]; rfl) (mkT_one _ _ _ _ _ _ _) ?_
    have k6 := setRow_heap _ _ _ (mkT cl [.slice none 0 0, .slice A4 n4 c4]) _ _ KA.out
    have hgne : g ≠ gR := by have := HGR.out; have := HS0.out; omega
    have hS1 := (setRow_other w4 gR g (mkT cl [.slice none 0 0, .slice A4 n4 c4]) hgne).trans hHeld
    have O9 := Lib.hid (show OwnZ (w4.setRow gR (mkT cl [.slice none 0 0, .slice A4 n4 c4])) w0.heap.size (.slice A4 n4 c4) X from owns_mono (owns_keep O5.out (fun i hi => setRow_other _ _ _ _ (fun e => by subst e; exact own_neD O5.out KA.out (by decide) hi))) HSD.out)
    have BL := Lib.hid (bl_setRow BL5.out HGR.out (mkT cl [.slice none 0 0, .slice A4 n4 c4]))
    have KR := Lib.hid k6
    refine hK.out _ _ hS1 (fun hHeld => ?_)
    clear hK K hS1 k6 O5 BL5 KA hHeld hgne
    generalize w4.setRow gR (mkT cl [.slice none 0 0, .slice A4 n4 c4]) = w6 at *
    try simp only [zzA, zzB, zzC, Act.put, zzD, zzE, zzF]
    refine wpAnyH_done (by kernel_rfl) ?_ _
    go_wp2_with fail
    go_loopw [4] (fun vi wr => ∃ (k : Nat) (vT : Value), k ≤ nn ∧ vi = .int .i64 (k : Int) ∧ Hid (wr.heap[gR]? = some (.cells (mkT cl [vT, .slice A4 n4 c4]) 33 (0, 0))) ∧ Hid (RowsZ wr w0.heap.size vT (T.take k) (fun _ => False)) ∧ Hid (OwnZ wr w0.heap.size (.slice A4 n4 c4) X) ∧ Hid (Below w0.heap.size w0 wr)) (fun vi _ => nn - (intOf vi).toNat)
    case atStart => exact ⟨0, .slice none 0 0, Nat.zero_le _, rfl, KR.out, rows_nil _ _ _, O9.out, BL.out⟩
    case round =>
      obtain ⟨k, vT, hk, rfl, KR2, RT2, O2, BL2⟩ := hrel
      have M3 := Lib.hid (M0.out.then BL2.out)
      have a1 := M3.out.next
      by_cases hlt : k < nn
      · have hkl : k < T.length := by rw [HN.out]; exact hlt
        obtain ⟨ad, hA, B9, m9, d9, hc9, hm9, hmd9, hr9⟩ := M3.out.row hkl
        subst hA
        obtain ⟨ad0, hA0, B0', m0', d0', hc0', _⟩ := M0.out.row hkl
        obtain rfl := Option.some.inj hA0
        have HAB := Lib.hid (show ad.block < w0.heap.size from by have := World.block_lt_of_cell? w0 _ hc0'; rwa [add_block] at this)
        clear hc0'
        have hrb9 : m9 * 8 ≤ 140737488355328 := by rw [← hm9]; exact HRB.out _ (List.getElem_mem hkl)
        have HTK := Lib.hid (show T.take (k + 1) = T.take k ++ [T[k]] from List.take_succ_eq_append_getElem hkl)
        have HTL := Lib.hid (show (T.take k).length = k by rw [List.length_take, HN.out]; omega)
        have i1 : (k : Int) < (nn : Int) := by omega
        generalize T[k] = row at *
        generalize T.take k = P at *
        obtain ⟨ev, hev⟩ : ∃ q, mkT cl [vT, .slice A4 n4 c4] = q := ⟨_, rfl⟩
        have HEV := Lib.hid hev
        rw [hev] at KR2
        clear hev hkl
        have HR9 := Lib.hid hr9
        have HM9 := Lib.hid hm9
        clear hr9 hm9
        go_wp2_with fail
        refine wp_region_held_drew (S := fun W' => W'.heap[g]? = some (.cells dv 33 (0, 0)) ∧ W'.cell? (ad.add k) = some (.slice B9 m9 d9)) (by kernel_rfl) ⟨M3.out.box, hc9⟩ (fun hHeld => ?_)
        have KD := Lib.hid (show wr.drew.heap[gR]? = some (.cells ev 33 (0, 0)) from KR2.out)
        have RD := Lib.hid (show RowsZ wr.drew w0.heap.size vT P (fun _ => False) from RT2.out)
        have OD := Lib.hid (show OwnZ wr.drew w0.heap.size (.slice A4 n4 c4) X from O2.out)
        have BD := Lib.hid (bl_trans BL2.out (Below.drew (Below.refl wr.heap.size wr)))
        have R9D := Lib.hid (HR9.out.below (Below.drew (Below.refl wr.heap.size wr)))
        clear hc9 a1 M3 KR2 RT2 O2 BL2 HR9
        generalize wr.drew = wd at *
        try simp only [zzA, zzB, zzC, Act.put, zzD, zzE, zzF]
        refine wpAnyH_take (i := 0) (v := ?vzcb0) rfl (by kernel_rfl) (by kernel_rfl) (by kernel_rfl) (fun _ _ _ h => h) (Or.inl ⟨by rfl, ?yzcb0⟩) hHeld ?rzcb0
        case yzcb0 => (intro wS hSw; clear hSw; go_simp; try (with_reducible rfl))
        try simp only [zzA, zzB, zzC, Act.put, zzD, zzE, zzF]
        refine wpAnyH_take (i := 2) (v := ?vzcb2) rfl (by kernel_rfl) (by kernel_rfl) (by kernel_rfl) (fun _ _ _ h => h) (Or.inl ⟨by rfl, ?yzcb2⟩) hHeld ?rzcb2
        case yzcb2 => (intro wS hSw; clear hSw; go_simp; try (with_reducible rfl))
        try simp only [zzA, zzB, zzC, Act.put, zzD, zzE, zzF]
        refine wpAnyH_take (i := 3) (v := ?vzcb3) rfl (by kernel_rfl) (by kernel_rfl) (by kernel_rfl) (fun _ _ _ h => h) (Or.inl ⟨by rfl, ?yzcb3⟩) hHeld ?rzcb3
        case yzcb3 => (intro wS hSw; have q1 := HNX1.out wS hSw.1; clear hSw; go_simp; try (with_reducible rfl))
        try simp only [zzA, zzB, zzC, Act.put, zzD, zzE, zzF]
        refine wpAnyH_take (i := 4) (v := ?vzcb4) rfl (by kernel_rfl) (by kernel_rfl) (by kernel_rfl) (fun _ _ _ h => h) (Or.inl ⟨by rfl, ?yzcb4⟩) hHeld ?rzcb4
        case yzcb4 => (intro wS hSw; clear hSw; go_simp; try (with_reducible rfl))
        try simp only [zzA, zzB, zzC, Act.put, zzD, zzE, zzF]
        refine wpAnyH_take (i := 5) (v := ?vzcb5) rfl (by kernel_rfl) (by kernel_rfl) (by kernel_rfl) (fun _ _ _ h => h) (Or.inl ⟨by rfl, ?yzcb5⟩) hHeld ?rzcb5
        case yzcb5 => (intro wS hSw; clear hSw; go_simp; try (with_reducible rfl))
        try simp only [zzA, zzB, zzC, Act.put, zzD, zzE, zzF]
        refine wpAnyH_take (i := 6) (v := ?vzcb6) rfl (by kernel_rfl) (by kernel_rfl) (by kernel_rfl) (fun _ _ _ h => h) (Or.inl ⟨by rfl, ?yzcb6⟩) hHeld ?rzcb6
        case yzcb6 => (intro wS hSw; have q1 := hSw.2; clear hSw; go_simp; try (with_reducible rfl))
        try simp only [zzA, zzB, zzC, Act.put, zzD, zzE, zzF]
        refine wpAnyH_ready (rs := [1, 7]) (by kernel_rfl) (by simp) (AllReadyH.cons rfl (fun K hK => ?_) (AllReadyH.cons rfl (fun K hK => ?_) AllReadyH.nil))
        · skip
          have c0 : wd.cell? ⟨gR, 256, none⟩ = some vT := (cell_of_row wd gR 256 _ _ _ KD.out).trans (by rw [← HEV.out]; exact mkT_at _ _ 0)
          go_simp
          refine hK.out _ _ hHeld (fun hHeld => ?_)
          clear hK K c0
          try simp only [zzA, zzB, zzC, Act.put, zzD, zzE, zzF]
          refine wpAnyH_ready (rs := [7]) (by kernel_rfl) (by simp) (AllReadyH.cons rfl (fun K hK => ?_) AllReadyH.nil)
          go_simp
          go_at_call 36
          refine (copyz_any row B9 m9 d9 HM9.out hrb9 wd R9D.out).mono ?_
          rintro e w4 ⟨v4, rfl, ho, hb⟩
          obtain ⟨B4, m4, d4, e4, hm4, hd4, hr4⟩ := ho.rdz
          subst e4
          have O4 := Lib.hid ho
          have HM4 := Lib.hid hm4.out
          have HR4 := Lib.hid hr4
          have HD4 := Lib.hid hd4
          have HS4 := Lib.hid hb.size
          have K4 := Lib.hid ((hb.block gR (Array.getElem?_eq_some_iff.1 KD.out).1).trans KD.out)
          have R4 := Lib.hid (RD.out.keep (fun i hi => hb.block i (RD.out.own i hi).2) (fun i cs h1 h2 _ _ => hb.block i h2))
          have P4 := Lib.hid (show OwnZ w4 w0.heap.size (.slice A4 n4 c4) X from owns_keep OD.out (fun i hi => hb.block i (OwnZ.own OD.out i hi).2))
          have B4x := Lib.hid (bl_trans BD.out hb)
          have HLE := Lib.hid BD.out.size
          have hS1 : w4.heap[g]? = some (.cells dv 33 (0, 0)) ∧ w4.cell? (ad.add k) = some (.slice B9 m9 d9) := ⟨(hb.block g (Array.getElem?_eq_some_iff.1 hHeld.1).1).trans hHeld.1, (hb.cell (World.block_lt_of_cell? _ _ hHeld.2)).trans hHeld.2⟩
          clear hHeld hb ho hm4 hr4 hd4 KD RD OD BD
          go_wp2_with fail
          refine hK.out _ _ hS1 (fun hHeld => ?_)
          clear hK K hS1 R9D
          have KD := K4
          have RD := R4
          have OD := P4
          have BD := B4x
          clear K4 R4 P4 B4x
          try simp only [zzA, zzB, zzC, Act.put, zzD, zzE, zzF]
          refine wpAnyH_ready (rs := [8]) (by kernel_rfl) (by simp) (AllReadyH.cons rfl (fun K hK => ?_) AllReadyH.nil)
          go_simp
          have ba := bl_alloc (Below.refl w4.heap.size w4) (.cells #[.slice B4 m4 d4] 23)
          have KL := Lib.hid (cell_of_row _ w4.heap.size 0 _ _ _ (heap_alloc_new w4 (.cells #[.slice B4 m4 d4] 23)))
          have K5 := Lib.hid ((ba.block gR (Array.getElem?_eq_some_iff.1 KD.out).1).trans KD.out)
          have R5 := Lib.hid (RD.out.keep (fun i hi => ba.block i (RD.out.own i hi).2) (fun i cs h1 h2 _ _ => ba.block i h2))
          have P5 := Lib.hid (show OwnZ (w4.alloc (.cells #[.slice B4 m4 d4] 23)) w0.heap.size (.slice A4 n4 c4) X from owns_keep OD.out (fun i hi => ba.block i (OwnZ.own OD.out i hi).2))
          have Q5 := Lib.hid (show OwnZ (w4.alloc (.cells #[.slice B4 m4 d4] 23)) wd.heap.size (.slice B4 m4 d4) row from owns_keep O4.out (fun i hi => ba.block i (OwnZ.own O4.out i hi).2))
          have HR5 := Lib.hid (HR4.out.below ba)
          have B5x := Lib.hid (bl_trans BD.out ba)
          have hS1 : (w4.alloc (.cells #[.slice B4 m4 d4] 23)).heap[g]? = some (.cells dv 33 (0, 0)) ∧ (w4.alloc (.cells #[.slice B4 m4 d4] 23)).cell? (ad.add k) = some (.slice B9 m9 d9) := ⟨(ba.block g (Array.getElem?_eq_some_iff.1 hHeld.1).1).trans hHeld.1, (ba.cell (World.block_lt_of_cell? _ _ hHeld.2)).trans hHeld.2⟩
          refine hK.out _ _ hS1 (fun hHeld => ?_)
          clear hK K hS1 ba KD RD OD BD O4 HR4
          have KD := K5
          have RD := R5
          have OD := P5
          have BD := B5x
          clear K5 R5 P5 B5x
          generalize w4.alloc (.cells #[.slice B4 m4 d4] 23) = w5 at *
          generalize w4.heap.size = pL at *
          try simp only [zzA, zzB, zzC, Act.put, zzD, zzE, zzF]
          refine wpAnyH_ready (rs := [9]) (by kernel_rfl) (by simp) (AllReadyH.cons rfl (fun K hK => ?_) AllReadyH.nil)
          rw [if_pos (by rfl)]
          obtain ⟨vals, a1, a2, a3⟩ := RD.out
          obtain ⟨i0, hi0, hz0, hz1, hz2⟩ := info_parts info_ints
          have hPl : P.length = k := HTL.out
          have hw5 := BD.out.size
          obtain ⟨g8, c8, w8, hrun, ho8, hg8, hat8, hlt8⟩ := run_append_lies (P := Tryz.prog) w5 31 31 w0.heap.size 23 i0 (.slice none 0 0) 1 24 Tryz.underlying31 hi0 hz0 hz1 hz2 rfl (by omega) vT P.length vals a1 ⟨pL, 0, none⟩ 1 1 [.slice B4 m4 d4] rfl (fun j u hu => by
            match j, hu with
            | 0, hu =>
              simp at hu
              subst hu
              exact KL.out) (by simp [Value.oneCell']) (by omega) (by simp only [maxLen]; omega) (by omega) hw5 _ rfl
          refine wp_append_of_run _ _ 31 rfl vT (.slice (some ⟨pL, 0, none⟩) 1 1) rfl rfl hrun ?_
          clear hPl
          have hne : ∀ i (cs : Array Value) (t : TypeId) (z : Nat × Nat), w5.heap[i]? = some (.cells cs t z) → t ≠ 23 → some i ≠ vT.ownBlock := fun i cs t z hi ht e2 => by
            rcases a1.2 with ⟨e4, _⟩ | ⟨g4, cap4, cur4, e4, _, hg4, _⟩
            · rw [e4] at e2; exact own_none i e2.symm
            · rw [e4] at e2
              obtain rfl : i = g4 := Option.some.inj e2
              exact ne_typ hi hg4 ht rfl
          have hk8 : w8.heap[gR]? = some (.cells ev 33 (0, 0)) := (hg8.block gR (Array.getElem?_eq_some_iff.1 KD.out).1 (hne _ _ _ _ KD.out (by decide))).trans KD.out
          have hq8 : ∀ p, B4 = some p → w8.heap[p.block]? = w5.heap[p.block]? ∧ w0.heap.size ≤ p.block ∧ ∃ cs, w5.heap[p.block]? = some (.cells cs 3 (0, 0)) := fun p e => by
            rcases Q5.out.2 with ⟨e4, _⟩ | ⟨g4, cap4, cur4, e4, hb4, hg4, _⟩
            · injection e4 with e5
              rw [e] at e5
              cases e5
            · injection e4 with e5
              rw [e] at e5
              have e6 := Option.some.inj e5
              subst e6
              exact ⟨hg8.block g4 (Array.getElem?_eq_some_iff.1 hg4).1 (hne _ _ _ _ hg4 (by decide)), Nat.le_trans HLE.out hb4, _, hg4⟩
          have hrz := RowsZ.snoc (W := w5) (W' := w8) (n1 := w0.heap.size) (v := vT) (T := P) (ex' := fun _ => False) a1 a2 a3 hg8 ho8 HM4.out HD4.out (own_cap Q5.out) (fun j hj => by
            obtain ⟨p, e, hc⟩ := HR5.out j hj
            exact ⟨p, e, cell_keep (by rw [add_block]; exact (hq8 p e).1) hc⟩) (fun p e => ⟨(hq8 p e).2.1, id, by obtain ⟨cs, hcs⟩ := (hq8 p e).2.2; exact ⟨cs, (hq8 p e).1.trans hcs⟩⟩) (fun i _ h => h)
          have ho8' : OwnZ w8 w0.heap.size (.slice A4 n4 c4) X := owns_keep OD.out (fun i hi => by
            rcases OD.out.2 with ⟨e4, _⟩ | ⟨g4, cap4, cur4, e4, hb4, hg4, _⟩
            · rw [e4] at hi; exact absurd hi (own_none i)
            · rw [e4] at hi
              obtain rfl : g4 = i := Option.some.inj hi
              exact hg8.block g4 (Array.getElem?_eq_some_iff.1 hg4).1 (hne _ _ _ _ hg4 (by decide)))
          have hbl8 := bl_grown BD.out hg8 (fun i e => (World.ownsRow.lt a1 i e).1)
          have hS1 : w8.heap[g]? = some (.cells dv 33 (0, 0)) ∧ w8.cell? (ad.add k) = some (.slice B9 m9 d9) := ⟨(hg8.block g (Array.getElem?_eq_some_iff.1 hHeld.1).1 (hne _ _ _ _ hHeld.1 (by decide))).trans hHeld.1, (cell_keep (p := ad.add k) (by rw [add_block]; exact (hbl8.block ad.block HAB.out).trans (BD.out.block ad.block HAB.out).symm) hHeld.2)⟩
          have K8 := Lib.hid hk8
          have R8 := Lib.hid hrz
          have O8 := Lib.hid ho8'
          have BL8 := Lib.hid hbl8
          clear hrun a1 a2 a3 hne hk8 hq8 hrz ho8' hbl8 KD RD OD BD Q5 HR5 KL ho8 hg8 hat8
          refine hK.out _ _ hS1 (fun hHeld => ?_)
          clear hK K hS1
          try simp only [zzA, zzB, zzC, Act.put, zzD, zzE, zzF]
          refine wpAnyH_take (i := 10) (v := ?vzyb14310) rfl (by kernel_rfl) (by kernel_rfl) (by kernel_rfl) (fun _ _ _ h => h) (Or.inl ⟨by rfl, ?yzyb14310⟩) hHeld ?rzyb14310
          case yzyb14310 => (intro wS hSw; clear hSw; go_simp; try (with_reducible rfl))
          try simp only [zzA, zzB, zzC, Act.put, zzD, zzE, zzF]
          refine wpAnyH_ready (rs := [11]) (by kernel_rfl) (by simp) (AllReadyH.cons rfl (fun K hK => ?_) AllReadyH.nil)
          have c0 := cell_of_row w8 gR 256 _ _ _ K8.out
          have z0 : w8.frozen? ⟨gR, 256, none⟩ = false := frozen_of_row w8 gR 256 _ _ K8.out
          rw [show ev[256]? = some vT from by rw [← HEV.out]; exact mkT_at _ _ 0] at c0
          go_simp
          have hgne : g ≠ gR := by have := HGR.out; have := HS0.out; omega
          have hS1 : (w8.setCell ⟨gR, 256, none⟩ (.slice (some ⟨g8, 0, none⟩) (P.length + 1) c8)).heap[g]? = some (.cells dv 33 (0, 0)) ∧ (w8.setCell ⟨gR, 256, none⟩ (.slice (some ⟨g8, 0, none⟩) (P.length + 1) c8)).cell? (ad.add k) = some (.slice B9 m9 d9) := ⟨(set_keep _ _ _ _ _ hgne).trans hHeld.1, cell_keep (p := ad.add k) (by rw [add_block]; exact set_keep _ _ _ _ _ (by have h1 := HAB.out; have h2 := HGR.out; omega)) hHeld.2⟩
          refine hK.out _ _ hS1 (fun hHeld => ?_)
          clear hK K hS1 c0 z0
          have k9 := heap_setCell_same w8 gR 256 _ _ (.slice (some ⟨g8, 0, none⟩) (P.length + 1) c8) K8.out
          rw [show ev.setIfInBounds 256 (.slice (some ⟨g8, 0, none⟩) (P.length + 1) c8) = mkT cl [.slice (some ⟨g8, 0, none⟩) (P.length + 1) c8, .slice A4 n4 c4] from by rw [← HEV.out]; exact mkT_set cl [vT, .slice A4 n4 c4] 0 (.slice (some ⟨g8, 0, none⟩) (P.length + 1) c8)] at k9
          have r9 := R8.out.setbox K8.out 256 (.slice (some ⟨g8, 0, none⟩) (P.length + 1) c8)
          have o9 := OwnZ.setbox O8.out K8.out 256 (.slice (some ⟨g8, 0, none⟩) (P.length + 1) c8)
          have b9 := bl_grown BL8.out (grown_set w8 gR 256 (.slice (some ⟨g8, 0, none⟩) (P.length + 1) c8)) (fun i e => by obtain rfl := Option.some.inj e; exact HGR.out)
          have K9 := Lib.hid k9
          have R9 := Lib.hid r9
          have O9' := Lib.hid o9
          have B9' := Lib.hid b9
          clear k9 r9 o9 b9 hHeld hgne
          try simp only [zzA, zzB, zzC, Act.put, zzD, zzE, zzF]
          refine wpAnyH_done (by kernel_rfl) ?_ _
          go_wp2_with fail
          refine ⟨⟨k + 1, _, by omega, by go_num, K9.out, by rw [HTK.out]; exact R9.out, O9'.out, B9'.out⟩, by simp [intOf]; omega⟩
        · skip
          go_simp
          go_at_call 36
          refine (copyz_any row B9 m9 d9 HM9.out hrb9 wd R9D.out).mono ?_
          rintro e w4 ⟨v4, rfl, ho, hb⟩
          obtain ⟨B4, m4, d4, e4, hm4, hd4, hr4⟩ := ho.rdz
          subst e4
          have O4 := Lib.hid ho
          have HM4 := Lib.hid hm4.out
          have HR4 := Lib.hid hr4
          have HD4 := Lib.hid hd4
          have HS4 := Lib.hid hb.size
          have K4 := Lib.hid ((hb.block gR (Array.getElem?_eq_some_iff.1 KD.out).1).trans KD.out)
          have R4 := Lib.hid (RD.out.keep (fun i hi => hb.block i (RD.out.own i hi).2) (fun i cs h1 h2 _ _ => hb.block i h2))
          have P4 := Lib.hid (show OwnZ w4 w0.heap.size (.slice A4 n4 c4) X from owns_keep OD.out (fun i hi => hb.block i (OwnZ.own OD.out i hi).2))
          have B4x := Lib.hid (bl_trans BD.out hb)
          have HLE := Lib.hid BD.out.size
          have hS1 : w4.heap[g]? = some (.cells dv 33 (0, 0)) ∧ w4.cell? (ad.add k) = some (.slice B9 m9 d9) := ⟨(hb.block g (Array.getElem?_eq_some_iff.1 hHeld.1).1).trans hHeld.1, (hb.cell (World.block_lt_of_cell? _ _ hHeld.2)).trans hHeld.2⟩
          clear hHeld hb ho hm4 hr4 hd4 KD RD OD BD
          go_wp2_with fail
          refine hK.out _ _ hS1 (fun hHeld => ?_)
          clear hK K hS1 R9D
          have KD := K4
          have RD := R4
          have OD := P4
          have BD := B4x
          clear K4 R4 P4 B4x
          try simp only [zzA, zzB, zzC, Act.put, zzD, zzE, zzF]
          refine wpAnyH_ready (rs := [1, 8]) (by kernel_rfl) (by simp) (AllReadyH.cons rfl (fun K hK => ?_) (AllReadyH.cons rfl (fun K hK => ?_) AllReadyH.nil))
          · skip
            have c0 : w4.cell? ⟨gR, 256, none⟩ = some vT := (cell_of_row w4 gR 256 _ _ _ KD.out).trans (by rw [← HEV.out]; exact mkT_at _ _ 0)
            go_simp
            refine hK.out _ _ hHeld (fun hHeld => ?_)
            clear hK K c0
            try simp only [zzA, zzB, zzC, Act.put, zzD, zzE, zzF]
            refine wpAnyH_ready (rs := [8]) (by kernel_rfl) (by simp) (AllReadyH.cons rfl (fun K hK => ?_) AllReadyH.nil)
            go_simp
            have ba := bl_alloc (Below.refl w4.heap.size w4) (.cells #[.slice B4 m4 d4] 23)
            have KL := Lib.hid (cell_of_row _ w4.heap.size 0 _ _ _ (heap_alloc_new w4 (.cells #[.slice B4 m4 d4] 23)))
            have K5 := Lib.hid ((ba.block gR (Array.getElem?_eq_some_iff.1 KD.out).1).trans KD.out)
            have R5 := Lib.hid (RD.out.keep (fun i hi => ba.block i (RD.out.own i hi).2) (fun i cs h1 h2 _ _ => ba.block i h2))
            have P5 := Lib.hid (show OwnZ (w4.alloc (.cells #[.slice B4 m4 d4] 23)) w0.heap.size (.slice A4 n4 c4) X from owns_keep OD.out (fun i hi => ba.block i (OwnZ.own OD.out i hi).2))
            have Q5 := Lib.hid (show OwnZ (w4.alloc (.cells #[.slice B4 m4 d4] 23)) wd.heap.size (.slice B4 m4 d4) row from owns_keep O4.out (fun i hi => ba.block i (OwnZ.own O4.out i hi).2))
            have HR5 := Lib.hid (HR4.out.below ba)
            have B5x := Lib.hid (bl_trans BD.out ba)
            have hS1 : (w4.alloc (.cells #[.slice B4 m4 d4] 23)).heap[g]? = some (.cells dv 33 (0, 0)) ∧ (w4.alloc (.cells #[.slice B4 m4 d4] 23)).cell? (ad.add k) = some (.slice B9 m9 d9) := ⟨(ba.block g (Array.getElem?_eq_some_iff.1 hHeld.1).1).trans hHeld.1, (ba.cell (World.block_lt_of_cell? _ _ hHeld.2)).trans hHeld.2⟩
            refine hK.out _ _ hS1 (fun hHeld => ?_)
            clear hK K hS1 ba KD RD OD BD O4 HR4
            have KD := K5
            have RD := R5
            have OD := P5
            have BD := B5x
            clear K5 R5 P5 B5x
            generalize w4.alloc (.cells #[.slice B4 m4 d4] 23) = w5 at *
            generalize w4.heap.size = pL at *
            try simp only [zzA, zzB, zzC, Act.put, zzD, zzE, zzF]
            refine wpAnyH_ready (rs := [9]) (by kernel_rfl) (by simp) (AllReadyH.cons rfl (fun K hK => ?_) AllReadyH.nil)
            rw [if_pos (by rfl)]
            obtain ⟨vals, a1, a2, a3⟩ := RD.out
            obtain ⟨i0, hi0, hz0, hz1, hz2⟩ := info_parts info_ints
            have hPl : P.length = k := HTL.out
            have hw5 := BD.out.size
            obtain ⟨g8, c8, w8, hrun, ho8, hg8, hat8, hlt8⟩ := run_append_lies (P := Tryz.prog) w5 31 31 w0.heap.size 23 i0 (.slice none 0 0) 1 24 Tryz.underlying31 hi0 hz0 hz1 hz2 rfl (by omega) vT P.length vals a1 ⟨pL, 0, none⟩ 1 1 [.slice B4 m4 d4] rfl (fun j u hu => by
              match j, hu with
              | 0, hu =>
                simp at hu
                subst hu
                exact KL.out) (by simp [Value.oneCell']) (by omega) (by simp only [maxLen]; omega) (by omega) hw5 _ rfl
            refine wp_append_of_run _ _ 31 rfl vT (.slice (some ⟨pL, 0, none⟩) 1 1) rfl rfl hrun ?_
            clear hPl
            have hne : ∀ i (cs : Array Value) (t : TypeId) (z : Nat × Nat), w5.heap[i]? = some (.cells cs t z) → t ≠ 23 → some i ≠ vT.ownBlock := fun i cs t z hi ht e2 => by
              rcases a1.2 with ⟨e4, _⟩ | ⟨g4, cap4, cur4, e4, _, hg4, _⟩
              · rw [e4] at e2; exact own_none i e2.symm
              · rw [e4] at e2
                obtain rfl : i = g4 := Option.some.inj e2
                exact ne_typ hi hg4 ht rfl
            have hk8 : w8.heap[gR]? = some (.cells ev 33 (0, 0)) := (hg8.block gR (Array.getElem?_eq_some_iff.1 KD.out).1 (hne _ _ _ _ KD.out (by decide))).trans KD.out
            have hq8 : ∀ p, B4 = some p → w8.heap[p.block]? = w5.heap[p.block]? ∧ w0.heap.size ≤ p.block ∧ ∃ cs, w5.heap[p.block]? = some (.cells cs 3 (0, 0)) := fun p e => by
              rcases Q5.out.2 with ⟨e4, _⟩ | ⟨g4, cap4, cur4, e4, hb4, hg4, _⟩
              · injection e4 with e5
                rw [e] at e5
                cases e5
              · injection e4 with e5
                rw [e] at e5
                have e6 := Option.some.inj e5
                subst e6
                exact ⟨hg8.block g4 (Array.getElem?_eq_some_iff.1 hg4).1 (hne _ _ _ _ hg4 (by decide)), Nat.le_trans HLE.out hb4, _, hg4⟩
            have hrz := RowsZ.snoc (W := w5) (W' := w8) (n1 := w0.heap.size) (v := vT) (T := P) (ex' := fun _ => False) a1 a2 a3 hg8 ho8 HM4.out HD4.out (own_cap Q5.out) (fun j hj => by
              obtain ⟨p, e, hc⟩ := HR5.out j hj
              exact ⟨p, e, cell_keep (by rw [add_block]; exact (hq8 p e).1) hc⟩) (fun p e => ⟨(hq8 p e).2.1, id, by obtain ⟨cs, hcs⟩ := (hq8 p e).2.2; exact ⟨cs, (hq8 p e).1.trans hcs⟩⟩) (fun i _ h => h)
            have ho8' : OwnZ w8 w0.heap.size (.slice A4 n4 c4) X := owns_keep OD.out (fun i hi => by
              rcases OD.out.2 with ⟨e4, _⟩ | ⟨g4, cap4, cur4, e4, hb4, hg4, _⟩
              · rw [e4] at hi; exact absurd hi (own_none i)
              · rw [e4] at hi
                obtain rfl : g4 = i := Option.some.inj hi
                exact hg8.block g4 (Array.getElem?_eq_some_iff.1 hg4).1 (hne _ _ _ _ hg4 (by decide)))
            have hbl8 := bl_grown BD.out hg8 (fun i e => (World.ownsRow.lt a1 i e).1)
            have hS1 : w8.heap[g]? = some (.cells dv 33 (0, 0)) ∧ w8.cell? (ad.add k) = some (.slice B9 m9 d9) := ⟨(hg8.block g (Array.getElem?_eq_some_iff.1 hHeld.1).1 (hne _ _ _ _ hHeld.1 (by decide))).trans hHeld.1, (cell_keep (p := ad.add k) (by rw [add_block]; exact (hbl8.block ad.block HAB.out).trans (BD.out.block ad.block HAB.out).symm) hHeld.2)⟩
            have K8 := Lib.hid hk8
            have R8 := Lib.hid hrz
            have O8 := Lib.hid ho8'
            have BL8 := Lib.hid hbl8
            clear hrun a1 a2 a3 hne hk8 hq8 hrz ho8' hbl8 KD RD OD BD Q5 HR5 KL ho8 hg8 hat8
            refine hK.out _ _ hS1 (fun hHeld => ?_)
            clear hK K hS1
            try simp only [zzA, zzB, zzC, Act.put, zzD, zzE, zzF]
            refine wpAnyH_take (i := 10) (v := ?vzyb27010) rfl (by kernel_rfl) (by kernel_rfl) (by kernel_rfl) (fun _ _ _ h => h) (Or.inl ⟨by rfl, ?yzyb27010⟩) hHeld ?rzyb27010
            case yzyb27010 => (intro wS hSw; clear hSw; go_simp; try (with_reducible rfl))
            try simp only [zzA, zzB, zzC, Act.put, zzD, zzE, zzF]
            refine wpAnyH_ready (rs := [11]) (by kernel_rfl) (by simp) (AllReadyH.cons rfl (fun K hK => ?_) AllReadyH.nil)
            have c0 := cell_of_row w8 gR 256 _ _ _ K8.out
            have z0 : w8.frozen? ⟨gR, 256, none⟩ = false := frozen_of_row w8 gR 256 _ _ K8.out
            rw [show ev[256]? = some vT from by rw [← HEV.out]; exact mkT_at _ _ 0] at c0
            go_simp
            have hgne : g ≠ gR := by have := HGR.out; have := HS0.out; omega
            have hS1 : (w8.setCell ⟨gR, 256, none⟩ (.slice (some ⟨g8, 0, none⟩) (P.length + 1) c8)).heap[g]? = some (.cells dv 33 (0, 0)) ∧ (w8.setCell ⟨gR, 256, none⟩ (.slice (some ⟨g8, 0, none⟩) (P.length + 1) c8)).cell? (ad.add k) = some (.slice B9 m9 d9) := ⟨(set_keep _ _ _ _ _ hgne).trans hHeld.1, cell_keep (p := ad.add k) (by rw [add_block]; exact set_keep _ _ _ _ _ (by have h1 := HAB.out; have h2 := HGR.out; omega)) hHeld.2⟩
            refine hK.out _ _ hS1 (fun hHeld => ?_)
            clear hK K hS1 c0 z0
            have k9 := heap_setCell_same w8 gR 256 _ _ (.slice (some ⟨g8, 0, none⟩) (P.length + 1) c8) K8.out
            rw [show ev.setIfInBounds 256 (.slice (some ⟨g8, 0, none⟩) (P.length + 1) c8) = mkT cl [.slice (some ⟨g8, 0, none⟩) (P.length + 1) c8, .slice A4 n4 c4] from by rw [← HEV.out]; exact mkT_set cl [vT, .slice A4 n4 c4] 0 (.slice (some ⟨g8, 0, none⟩) (P.length + 1) c8)] at k9
            have r9 := R8.out.setbox K8.out 256 (.slice (some ⟨g8, 0, none⟩) (P.length + 1) c8)
            have o9 := OwnZ.setbox O8.out K8.out 256 (.slice (some ⟨g8, 0, none⟩) (P.length + 1) c8)
            have b9 := bl_grown BL8.out (grown_set w8 gR 256 (.slice (some ⟨g8, 0, none⟩) (P.length + 1) c8)) (fun i e => by obtain rfl := Option.some.inj e; exact HGR.out)
            have K9 := Lib.hid k9
            have R9 := Lib.hid r9
            have O9' := Lib.hid o9
            have B9' := Lib.hid b9
            clear k9 r9 o9 b9 hHeld hgne
            try simp only [zzA, zzB, zzC, Act.put, zzD, zzE, zzF]
            refine wpAnyH_done (by kernel_rfl) ?_ _
            go_wp2_with fail
            refine ⟨⟨k + 1, _, by omega, by go_num, K9.out, by rw [HTK.out]; exact R9.out, O9'.out, B9'.out⟩, by simp [intOf]; omega⟩
          · skip
            go_simp
            have ba := bl_alloc (Below.refl w4.heap.size w4) (.cells #[.slice B4 m4 d4] 23)
            have KL := Lib.hid (cell_of_row _ w4.heap.size 0 _ _ _ (heap_alloc_new w4 (.cells #[.slice B4 m4 d4] 23)))
            have K5 := Lib.hid ((ba.block gR (Array.getElem?_eq_some_iff.1 KD.out).1).trans KD.out)
            have R5 := Lib.hid (RD.out.keep (fun i hi => ba.block i (RD.out.own i hi).2) (fun i cs h1 h2 _ _ => ba.block i h2))
            have P5 := Lib.hid (show OwnZ (w4.alloc (.cells #[.slice B4 m4 d4] 23)) w0.heap.size (.slice A4 n4 c4) X from owns_keep OD.out (fun i hi => ba.block i (OwnZ.own OD.out i hi).2))
            have Q5 := Lib.hid (show OwnZ (w4.alloc (.cells #[.slice B4 m4 d4] 23)) wd.heap.size (.slice B4 m4 d4) row from owns_keep O4.out (fun i hi => ba.block i (OwnZ.own O4.out i hi).2))
            have HR5 := Lib.hid (HR4.out.below ba)
            have B5x := Lib.hid (bl_trans BD.out ba)
            have hS1 : (w4.alloc (.cells #[.slice B4 m4 d4] 23)).heap[g]? = some (.cells dv 33 (0, 0)) ∧ (w4.alloc (.cells #[.slice B4 m4 d4] 23)).cell? (ad.add k) = some (.slice B9 m9 d9) := ⟨(ba.block g (Array.getElem?_eq_some_iff.1 hHeld.1).1).trans hHeld.1, (ba.cell (World.block_lt_of_cell? _ _ hHeld.2)).trans hHeld.2⟩
            refine hK.out _ _ hS1 (fun hHeld => ?_)
            clear hK K hS1 ba KD RD OD BD O4 HR4
            have KD := K5
            have RD := R5
            have OD := P5
            have BD := B5x
            clear K5 R5 P5 B5x
            generalize w4.alloc (.cells #[.slice B4 m4 d4] 23) = w5 at *
            generalize w4.heap.size = pL at *
            try simp only [zzA, zzB, zzC, Act.put, zzD, zzE, zzF]
            refine wpAnyH_ready (rs := [1]) (by kernel_rfl) (by simp) (AllReadyH.cons rfl (fun K hK => ?_) AllReadyH.nil)
            have c0 : w5.cell? ⟨gR, 256, none⟩ = some vT := (cell_of_row w5 gR 256 _ _ _ KD.out).trans (by rw [← HEV.out]; exact mkT_at _ _ 0)
            go_simp
            refine hK.out _ _ hHeld (fun hHeld => ?_)
            clear hK K c0
            try simp only [zzA, zzB, zzC, Act.put, zzD, zzE, zzF]
            refine wpAnyH_ready (rs := [9]) (by kernel_rfl) (by simp) (AllReadyH.cons rfl (fun K hK => ?_) AllReadyH.nil)
            rw [if_pos (by rfl)]
            obtain ⟨vals, a1, a2, a3⟩ := RD.out
            obtain ⟨i0, hi0, hz0, hz1, hz2⟩ := info_parts info_ints
            have hPl : P.length = k := HTL.out
            have hw5 := BD.out.size
            obtain ⟨g8, c8, w8, hrun, ho8, hg8, hat8, hlt8⟩ := run_append_lies (P := Tryz.prog) w5 31 31 w0.heap.size 23 i0 (.slice none 0 0) 1 24 Tryz.underlying31 hi0 hz0 hz1 hz2 rfl (by omega) vT P.length vals a1 ⟨pL, 0, none⟩ 1 1 [.slice B4 m4 d4] rfl (fun j u hu => by
              match j, hu with
              | 0, hu =>
                simp at hu
                subst hu
                exact KL.out) (by simp [Value.oneCell']) (by omega) (by simp only [maxLen]; omega) (by omega) hw5 _ rfl
            refine wp_append_of_run _ _ 31 rfl vT (.slice (some ⟨pL, 0, none⟩) 1 1) rfl rfl hrun ?_
            clear hPl
            have hne : ∀ i (cs : Array Value) (t : TypeId) (z : Nat × Nat), w5.heap[i]? = some (.cells cs t z) → t ≠ 23 → some i ≠ vT.ownBlock := fun i cs t z hi ht e2 => by
              rcases a1.2 with ⟨e4, _⟩ | ⟨g4, cap4, cur4, e4, _, hg4, _⟩
              · rw [e4] at e2; exact own_none i e2.symm
              · rw [e4] at e2
                obtain rfl : i = g4 := Option.some.inj e2
                exact ne_typ hi hg4 ht rfl
            have hk8 : w8.heap[gR]? = some (.cells ev 33 (0, 0)) := (hg8.block gR (Array.getElem?_eq_some_iff.1 KD.out).1 (hne _ _ _ _ KD.out (by decide))).trans KD.out
            have hq8 : ∀ p, B4 = some p → w8.heap[p.block]? = w5.heap[p.block]? ∧ w0.heap.size ≤ p.block ∧ ∃ cs, w5.heap[p.block]? = some (.cells cs 3 (0, 0)) := fun p e => by
              rcases Q5.out.2 with ⟨e4, _⟩ | ⟨g4, cap4, cur4, e4, hb4, hg4, _⟩
              · injection e4 with e5
                rw [e] at e5
                cases e5
              · injection e4 with e5
                rw [e] at e5
                have e6 := Option.some.inj e5
                subst e6
                exact ⟨hg8.block g4 (Array.getElem?_eq_some_iff.1 hg4).1 (hne _ _ _ _ hg4 (by decide)), Nat.le_trans HLE.out hb4, _, hg4⟩
            have hrz := RowsZ.snoc (W := w5) (W' := w8) (n1 := w0.heap.size) (v := vT) (T := P) (ex' := fun _ => False) a1 a2 a3 hg8 ho8 HM4.out HD4.out (own_cap Q5.out) (fun j hj => by
              obtain ⟨p, e, hc⟩ := HR5.out j hj
              exact ⟨p, e, cell_keep (by rw [add_block]; exact (hq8 p e).1) hc⟩) (fun p e => ⟨(hq8 p e).2.1, id, by obtain ⟨cs, hcs⟩ := (hq8 p e).2.2; exact ⟨cs, (hq8 p e).1.trans hcs⟩⟩) (fun i _ h => h)
            have ho8' : OwnZ w8 w0.heap.size (.slice A4 n4 c4) X := owns_keep OD.out (fun i hi => by
              rcases OD.out.2 with ⟨e4, _⟩ | ⟨g4, cap4, cur4, e4, hb4, hg4, _⟩
              · rw [e4] at hi; exact absurd hi (own_none i)
              · rw [e4] at hi
                obtain rfl : g4 = i := Option.some.inj hi
                exact hg8.block g4 (Array.getElem?_eq_some_iff.1 hg4).1 (hne _ _ _ _ hg4 (by decide)))
            have hbl8 := bl_grown BD.out hg8 (fun i e => (World.ownsRow.lt a1 i e).1)
            have hS1 : w8.heap[g]? = some (.cells dv 33 (0, 0)) ∧ w8.cell? (ad.add k) = some (.slice B9 m9 d9) := ⟨(hg8.block g (Array.getElem?_eq_some_iff.1 hHeld.1).1 (hne _ _ _ _ hHeld.1 (by decide))).trans hHeld.1, (cell_keep (p := ad.add k) (by rw [add_block]; exact (hbl8.block ad.block HAB.out).trans (BD.out.block ad.block HAB.out).symm) hHeld.2)⟩
            have K8 := Lib.hid hk8
            have R8 := Lib.hid hrz
            have O8 := Lib.hid ho8'
            have BL8 := Lib.hid hbl8
            clear hrun a1 a2 a3 hne hk8 hq8 hrz ho8' hbl8 KD RD OD BD Q5 HR5 KL ho8 hg8 hat8
            refine hK.out _ _ hS1 (fun hHeld => ?_)
            clear hK K hS1
            try simp only [zzA, zzB, zzC, Act.put, zzD, zzE, zzF]
            refine wpAnyH_take (i := 10) (v := ?vzyb36810) rfl (by kernel_rfl) (by kernel_rfl) (by kernel_rfl) (fun _ _ _ h => h) (Or.inl ⟨by rfl, ?yzyb36810⟩) hHeld ?rzyb36810
            case yzyb36810 => (intro wS hSw; clear hSw; go_simp; try (with_reducible rfl))
            try simp only [zzA, zzB, zzC, Act.put, zzD, zzE, zzF]
            refine wpAnyH_ready (rs := [11]) (by kernel_rfl) (by simp) (AllReadyH.cons rfl (fun K hK => ?_) AllReadyH.nil)
            have c0 := cell_of_row w8 gR 256 _ _ _ K8.out
            have z0 : w8.frozen? ⟨gR, 256, none⟩ = false := frozen_of_row w8 gR 256 _ _ K8.out
            rw [show ev[256]? = some vT from by rw [← HEV.out]; exact mkT_at _ _ 0] at c0
            go_simp
            have hgne : g ≠ gR := by have := HGR.out; have := HS0.out; omega
            have hS1 : (w8.setCell ⟨gR, 256, none⟩ (.slice (some ⟨g8, 0, none⟩) (P.length + 1) c8)).heap[g]? = some (.cells dv 33 (0, 0)) ∧ (w8.setCell ⟨gR, 256, none⟩ (.slice (some ⟨g8, 0, none⟩) (P.length + 1) c8)).cell? (ad.add k) = some (.slice B9 m9 d9) := ⟨(set_keep _ _ _ _ _ hgne).trans hHeld.1, cell_keep (p := ad.add k) (by rw [add_block]; exact set_keep _ _ _ _ _ (by have h1 := HAB.out; have h2 := HGR.out; omega)) hHeld.2⟩
            refine hK.out _ _ hS1 (fun hHeld => ?_)
            clear hK K hS1 c0 z0
            have k9 := heap_setCell_same w8 gR 256 _ _ (.slice (some ⟨g8, 0, none⟩) (P.length + 1) c8) K8.out
            rw [show ev.setIfInBounds 256 (.slice (some ⟨g8, 0, none⟩) (P.length + 1) c8) = mkT cl [.slice (some ⟨g8, 0, none⟩) (P.length + 1) c8, .slice A4 n4 c4] from by rw [← HEV.out]; exact mkT_set cl [vT, .slice A4 n4 c4] 0 (.slice (some ⟨g8, 0, none⟩) (P.length + 1) c8)] at k9
            have r9 := R8.out.setbox K8.out 256 (.slice (some ⟨g8, 0, none⟩) (P.length + 1) c8)
            have o9 := OwnZ.setbox O8.out K8.out 256 (.slice (some ⟨g8, 0, none⟩) (P.length + 1) c8)
            have b9 := bl_grown BL8.out (grown_set w8 gR 256 (.slice (some ⟨g8, 0, none⟩) (P.length + 1) c8)) (fun i e => by obtain rfl := Option.some.inj e; exact HGR.out)
            have K9 := Lib.hid k9
            have R9 := Lib.hid r9
            have O9' := Lib.hid o9
            have B9' := Lib.hid b9
            clear k9 r9 o9 b9 hHeld hgne
            try simp only [zzA, zzB, zzC, Act.put, zzD, zzE, zzF]
            refine wpAnyH_done (by kernel_rfl) ?_ _
            go_wp2_with fail
            refine ⟨⟨k + 1, _, by omega, by go_num, K9.out, by rw [HTK.out]; exact R9.out, O9'.out, B9'.out⟩, by simp [intOf]; omega⟩
      · obtain rfl : k = nn := by omega
        rw [show T.take k = T from List.take_of_length_le (by rw [HN.out]; exact Nat.le_refl _)] at RT2
        obtain ⟨ev, hev⟩ : ∃ q, mkT cl [vT, .slice A4 n4 c4] = q := ⟨_, rfl⟩
        have HEV := Lib.hid hev
        have hvs := hev
        obtain ⟨At, nt, ct, evT, _⟩ := RT2.out.form
        subst evT
        have hes : ev.size = 258 := by rw [← hev, mkT_size]; rfl
        have heo : ev.all (·.oneCell') = true := by rw [← hev]; exact mkT_one _ _ _ _ _ _ _
        have hel : ev.toList.length = 258 := by rw [Array.length_toList, hes]
        rw [hev] at KR2
        have KB := Lib.hid ((BL2.out.block (g + 1) (by have := HS0.out; omega)).trans KZ.out)
        have LE := Lib.hid (load_dv KR2.out)
        clear hev hvs M3
        go_wp2_with (first | (refine wpList_load_part 33 258 _ rfl rfl ⟨gR, 0, none⟩ rfl ev.toList (aggD _) (szD _) hel LE.out ?_) | (refine wpList_store_row rfl 33 _ _ rfl (g + 1) ev rfl rfl _ _ KB.out (by rw [sizeD, hes]) (by rw [dz_size, hes]) heo ?_))
        have k8 := setRow_heap _ _ _ ev _ _ KB.out
        refine bodyPost_ret (v := .agg ev) (results_cell_row rfl _ _ (g + 1) 33 _ (0, 0) _ rfl k8 Tryz.underlying33 rfl (by rw [sizeD, hes])) rfl (post_is HQ ?_)
        have hs0 := HS0.out
        have B01 : Below W.heap.size W w0 := by rw [HG.out]; exact B00.out
        refine ⟨w0.heap.size, .slice At nt ct, .slice A4 n4 c4, fun _ => False, by rw [HEV.out], by have := HG.out; omega, RT2.out.keep (fun i hi => setRow_other _ _ _ _ (by have := (RT2.out.own i hi).1; omega)) (fun i cs h1 _ _ _ => setRow_other _ _ _ _ (by omega)), owns_keep O2.out (fun i hi => setRow_other _ _ _ _ (by have := (OwnZ.own O2.out i hi).1; omega)), by have h := bl_setRow (bl_trans B01 BL2.out) (show W.heap.size ≤ g + 1 by rw [HG.out]; omega) ev; rw [HG.out] at h; exact h⟩

end Go.Proofs.YtcgfogdfcdndgaaGreatDoor
