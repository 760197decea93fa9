/- What the program's disk answers to Names: a contract over the translated program. No condition but that the disk lies in memory as said, and what each statement names. -/
import Derived.Test.YtncpkblgiepdpaaGreatDkK
import Derived.Sort.OwnSorted
import Derived.Sort.KeysCollected
import Derived.Maps.RangeWalk
set_option linter.unusedVariables false
namespace Go.Proofs.YtncpkblgiepdpaaGreat
open Go.RowKit Go.Maps

theorem bb_lt : ∀ (a b : List UInt8), bytesBefore a b = true → a < b
  | [], [], h => by simp [bytesBefore] at h
  | [], y :: s, _ => by simp
  | x :: r, [], h => by simp [bytesBefore] at h
  | x :: r, y :: s, h => by
    rw [List.cons_lt_cons_iff]
    simp [bytesBefore] at h
    rcases h with h | ⟨h1, h2⟩
    · exact .inl h
    · exact .inr ⟨h1, bb_lt r s h2⟩
theorem sort_names (l l' : List BS) (hp : l'.Perm l) (hs : l.Pairwise fun a b => bytesBefore a b = true) : l'.mergeSort (fun x y => decide (x ≤ y)) = l := by
  have tr : ∀ (a b c : BS), decide (a ≤ b) = true → decide (b ≤ c) = true → decide (a ≤ c) = true := fun a b c h1 h2 => by
    simp only [decide_eq_true_eq] at *
    exact List.le_trans h1 h2
  have tot : ∀ (a b : BS), (decide (a ≤ b) || decide (b ≤ a)) = true := fun a b => by
    rcases List.le_total a b with h | h <;> simp [h]
  refine List.Perm.eq_of_pairwise (le := fun a b => decide (a ≤ b) = true) (fun a b _ _ h1 h2 => ?_) (List.pairwise_mergeSort tr tot l') (hs.imp fun {a b} h => ?_) ((List.mergeSort_perm l' _).trans hp)
  · simp only [decide_eq_true_eq] at h1 h2
    exact List.le_antisymm h1 h2
  · simp only [decide_eq_true_eq]
    exact List.le_of_lt (bb_lt a b h)

/-! ### names that a range over them has told -/
/-- The names that are not left. -/
def told (m : Nm) (left : Lit → Bool) : Nm := m.filter fun p => !left (.string p.1)
theorem told_all {m : Nm} {left : Lit → Bool} (h : ∀ kl, left kl = false) : told m left = m := by
  unfold told
  exact List.filter_eq_self.2 fun p _ => by simp [h]
theorem told_start (loc : Nat → Nat) (m : Nm) : told m (Maps.has (DM loc m)) = [] := by
  unfold told
  rw [List.filter_eq_nil_iff]
  intro p hp
  have : Maps.has (DM loc m) (.string p.1) = true := by
    unfold DM Maps.has
    simp only [List.any_map, List.any_eq_true]
    exact ⟨p, hp, by simp [Lit.sameKey]⟩
  simp [this]
theorem told_more {m : Nm} (hs : Srt m) {left : Lit → Bool} {p : BS × Nat} (hp : p ∈ m) (hl : left (.string p.1) = true) :
    (told m fun z => left z && !z.sameKey (.string p.1)).Perm (p :: told m left) := by
  induction m with
  | nil => simp at hp
  | cons y r ih =>
    obtain ⟨h1, h2⟩ := List.pairwise_cons.1 hs
    by_cases e : y = p
    · subst e
      have hr : (told r fun z => left z && !z.sameKey (.string y.1)) = told r left := by
        unfold told
        refine List.filter_congr fun q hq => ?_
        have hne : ¬ q.1 = y.1 := fun e => bb_ne (h1 q hq) e.symm
        have : (Lit.string q.1).sameKey (.string y.1) = false := by simpa [Lit.sameKey] using hne
        simp [this]
      have e1 : (told (y :: r) fun z => left z && !z.sameKey (.string y.1)) = y :: told r fun z => left z && !z.sameKey (.string y.1) := by
        unfold told
        rw [List.filter_cons_of_pos]
        simp [Lit.sameKey]
      have e2 : told (y :: r) left = told r left := by
        unfold told
        rw [List.filter_cons_of_neg]
        simp [hl]
      rw [e1, e2, hr]
    · have hr : p ∈ r := by
        rcases List.mem_cons.1 hp with e2 | e2
        · exact absurd e2.symm e
        · exact e2
      have hne : ¬ y.1 = p.1 := fun e2 => bb_ne (h1 p hr) e2
      have hk : (Lit.string y.1).sameKey (.string p.1) = false := by simpa [Lit.sameKey] using hne
      have ih2 := ih h2 hr
      cases hy : left (.string y.1) with
      | true =>
        have e1 : (told (y :: r) fun z => left z && !z.sameKey (.string p.1)) = told r fun z => left z && !z.sameKey (.string p.1) := by
          unfold told
          rw [List.filter_cons_of_neg]
          simp [hy, hk]
        have e2 : told (y :: r) left = told r left := by
          unfold told
          rw [List.filter_cons_of_neg]
          simp [hy]
        rw [e1, e2]; exact ih2
      | false =>
        have e1 : (told (y :: r) fun z => left z && !z.sameKey (.string p.1)) = y :: told r fun z => left z && !z.sameKey (.string p.1) := by
          unfold told
          rw [List.filter_cons_of_pos]
          simp [hy]
        have e2 : told (y :: r) left = y :: told r left := by
          unfold told
          rw [List.filter_cons_of_pos]
          simp [hy]
        rw [e1, e2]
        exact (ih2.cons y).trans (List.Perm.swap p y _)
theorem told_len (m : Nm) (left : Lit → Bool) : (told m left).length ≤ m.length := List.length_filter_le _ _

theorem DM_atz (loc : Nat → Nat) (m : Nm) (s : BS) (zd : DataW Unit) : (DM loc m).atKey (.string s) zd = match getE m s with | some i => .lit (.int .i64 (loc i)) | none => zd := by
  unfold DM DataW.atKey getE
  simp only [List.find?_map]
  have : (List.find? ((fun p : Lit × DataW Unit => p.1.sameKey (.string s)) ∘ fun p : BS × Nat => (.string p.1, .lit (.int .i64 (loc p.2)))) m) = m.find? fun p => p.1 == s := rfl
  rw [this]
  cases m.find? fun p => p.1 == s <;> rfl

/-- A round of a range over names. -/
theorem wpList_next_names {ops : Array Oper} {rest : List Oper} {o : Oper} {a : Act} {Q : Exit → Act → World → Prop} (w : World) (hg : o.guard = none) (it : Operand) (hop : o.op = Op.next it false) (b r n : Nat) (loc : Nat → Nat) (m : Nm) (hs : Srt m) (left : Lit → Bool) (cnt : Nat)
    (hit : a.eval it = .pointer (some ⟨r, 0, none⟩)) (h : w.ranges Tryz.prog 9 RP b r n (DM loc m) left cnt)
    (hDone : cnt = 0 → (∀ kl, left kl = false) → wpList Tryz.prog ops Q rest (a.put o.dst (.tuple #[.bool false])) w)
    (hMore : ∀ (x : ByteArray) (i : Nat) (w' : World) (cnt' : Nat), (x.data.toList, i) ∈ m → x.size ≤ maxLen → left (.string x.data.toList) = true → w'.ranges Tryz.prog 9 RP b r n (DM loc m) (fun z => left z && !z.sameKey (.string x.data.toList)) cnt' → cnt' < cnt →
      w.grownBy w' (some r) → w'.heap.size = w.heap.size → (Instr.entry (.pointer (some ⟨r, 0, none⟩))).run Tryz.prog w' = .ok (.tuple #[.string x, .pointer (some ⟨loc i, 0, none⟩)]) w' → wpList Tryz.prog ops Q rest (a.put o.dst (.tuple #[.bool true, .string x, .pointer (some ⟨loc i, 0, none⟩)])) w') :
    wpList Tryz.prog ops Q (o :: rest) a w := by
  refine wpList_next_ranges w hg it hop 9 keyedS RP Value.string pv (fun key kl hk => ?_) (fun v y hv => ?_) b r n _ left cnt hit h hDone fun x c kl y w' cnt' hk hl hv hat hrg hlt hgr hsz hen => ?_
  · obtain ⟨x, rfl, _, _⟩ := Maps.keyOf_str Tryz.underlying9 hk
    exact ⟨_, rfl⟩
  · unfold RP at hv
    split at hv
    · exact ⟨none, rfl⟩
    · rename_i b
      exact ⟨some b, rfl⟩
    · cases hv
  · obtain ⟨x', ex, rfl, hx⟩ := Maps.keyOf_str Tryz.underlying9 hk
    simp only [encStr, Value.string.injEq] at ex
    subst ex
    cases hg2 : getE m x' with
    | none =>
      have h1 := hat .nil
      have h2 := hat (.lit (.bool true))
      rw [DM_atz, hg2] at h1 h2
      rw [← h1] at h2
      cases h2
    | some i =>
      have h1 := hat .nil
      rw [DM_atz, hg2] at h1
      obtain ⟨y1, y2⟩ := y
      simp only at h1
      subst h1
      have hc := RP_some hv
      rw [hc] at hen ⊢
      have hxs : (ByteArray.mk x'.toArray).data.toList = x' := by simp
      exact hMore ⟨x'.toArray⟩ i w' cnt' (by rw [hxs]; exact (getE_some hs).1 hg2) (by show x'.toArray.size ≤ _; simpa using hx) (by rw [hxs]; exact hl) (by rw [hxs]; exact hrg) hlt hgr hsz hen

theorem info_s : (Tryz.prog.info? 9).map (fun i => (i.zero, i.size, i.bytes)) = some (some (.string ⟨#[]⟩), 1, 16) := by kernel_rfl

section
variable {w : World} {own : Nat → Option Role} {d bn bk : Nat} {loc : Nat → Nat} {s : DS} {L : Nat → Prop}
/-- What Names tells. -/
def GotNames (w : World) (ns : List BS) (e : Ending) (w' : World) : Prop :=
  ∃ g cap, e = .returned (.slice (some ⟨g, 0, none⟩) ns.length cap) ∧ w'.ownsRow w.heap.size 9 1 (.slice (some ⟨g, 0, none⟩) ns.length cap) ns.length (ns.map encStr) ∧ Below w.heap.size w w'
theorem one_cellS (w : World) (v : Value) (t : TypeId) : ∀ j u, [v][j]? = some u → (w.alloc (.cells #[v] t)).cell? ((⟨w.heap.size, 0, none⟩ : Addr).add j) = some u := by
  intro j u hu
  rcases j with _ | j
  · simp at hu
    subst hu
    simp [Addr.add]
  · simp at hu
set_option maxRecDepth 20000 in
theorem names_any (hA : At w own d bn bk loc s L) {n : Nat} (hI : OkM n s.now) (hd : s.dead = false) (hfew : s.now.length ≤ 1000000000) :
    Calls Tryz.prog 53 #[.pointer (some ⟨d, 0, none⟩)] w (GotNames w (s.now.map (·.1))) := by
  have hq := refusal_any hA hd
  clear hd
  have c4 := hA.cellD 4 _ fun _ => rfl
  have hm := hA.nowM
  have hlen := fun ty => World.ownsMap.len hm Tryz.underlying75 ty
  rw [size_DM] at hlen
  obtain ⟨i0, hi, hz0, hz1, hz2⟩ := info_parts info_s
  have hdl := hA.lt _ _ hA.rd
  have hbnl := hA.lt _ _ hA.rn
  have hset := sort_names (s.now.map (·.1))
  have HI := Lib.hid hI
  have HS := Lib.hid hset
  clear hset hI
  go_enter Tryz.func53, Tryz.ntmps53
  go_wp2_with (first | (go_at_call 67; (with_reducible refine hq.mono ?_); rintro e w ⟨rfl, rfl⟩) | (at_make; refine wpList_make_own _ rfl _ _ 87 rfl w.heap.size 9 i0 (.string ⟨#[]⟩) 1 Tryz.underlying87 hi hz0 hz1 _ _ _ s.now.length rfl rfl rfl (by rw [hz2]; omega) (by simp only [maxLen]; omega) (Nat.le_refl _) ?_))
  intro w1 ho hg
  have hb1 : Below w.heap.size w w1 := bl_grown (Below.refl _ _) hg (by simp)
  have hm1 : MapAt w1 bn loc s.now := mapAt_grown hm hg (by simp)
  have c4' : w1.cell? ⟨d, 4, none⟩ = some (.map (some bn)) := by rw [← c4]; exact hb1.cell hdl
  have hsz1 := hb1.size
  have hno : ∃ g cap, w.heap.size ≤ g ∧ (.slice (some ⟨w.heap.size, 0, none⟩) 0 s.now.length : Value) = .slice (some ⟨g, 0, none⟩) 0 cap := ⟨_, _, Nat.le_refl _, rfl⟩
  clear hlen hg c4 hm
  go_wp2_with (at_range; refine wpList_range_own _ rfl _ 75 rfl 9 132 keyedS Tryz.underlying75 RP bn s.now.length _ rfl hm1 ?_; intro w2 hrg2 hg2 hs2)
  have hb2 : Below w.heap.size w w2 := bl_grown hb1 hg2 (by simp)
  have ho2 : w2.ownsRow w.heap.size 9 1 (.slice (some ⟨w.heap.size, 0, none⟩) 0 s.now.length) 0 [] := World.ownsRow.kept ho hg2 (.inr (by simp [Value.ownBlock]))
  go_frame
  go_loopw [3] (fun v wr => ∃ left cnt, ∃ ns : List BS, ∃ g cap, v = .slice (some ⟨g, 0, none⟩) ns.length cap ∧ wr.ranges Tryz.prog 9 RP bn w1.heap.size s.now.length (DM loc s.now) left cnt ∧ ns.Perm ((told s.now left).map (·.1)) ∧ wr.ownsRow w.heap.size 9 1 v ns.length (ns.map encStr) ∧ Below w.heap.size w wr) (fun _ wr => wr.rangeLeft bn w1.heap.size)
  case atStart => exact ⟨_, _, [], _, _, rfl, hrg2, by rw [told_start]; exact List.Perm.refl _, ho2, hb2⟩
  case round =>
    clear hrg2 hg2 ho ho2 hno hm1
    obtain ⟨left, cnt, ns, g, cap, rfl, hrg, hperm, hown, hbl⟩ := hrel
    have hnl : ns.length ≤ s.now.length := by rw [hperm.length_eq, List.length_map]; exact told_len _ _
    have hrsz := hbl.size
    go_wp2_with (at_next; refine wpList_next_names _ rfl _ rfl bn w1.heap.size _ loc s.now HI.out.1 left cnt rfl hrg ?_ ?_)
    · intro hc0 hl0
      rw [told_all hl0] at hperm
      have hsort := HS.out ns hperm (by
        refine List.pairwise_map.2 (HI.out.1.imp fun {a b} h => h))
      have hnl2 := Lib.hid (hperm.length_eq : ns.length = (s.now.map (·.1)).length)
      clear hperm
      rcases hown.2 with ⟨h0, _⟩ | ⟨g', cap', cur, hv, hbase, hgb, h1, h2, h3, h4⟩
      · cases h0
      · cases hv
        have hh := holds_of_block hgb (by simpa using h4)
        have hgl : g < wr.heap.size := (Array.getElem?_eq_some_iff.1 hgb).1
        have hsc := Tryz.slices_Sort_string g 0 cap ns wr hh hgl (by omega)
        have HH := Lib.hid hgb
        clear hh hgb h4 hrg hown
        go_wp2_with (go_at_call 113; (with_reducible refine hsc.mono ?_); rintro e w' ⟨rfl, q, os, rfl⟩)
        go_ret
        have ho2 := ownsRow_sorted (n := q) (os := os) (ts := ns.mergeSort fun x y => decide (x ≤ y)) (ss := ns) (by simp) hbase HH.out h1 h2 h3
        rw [hsort] at ho2
        have e9 : (Value.slice (some ⟨g, 0, none⟩) ns.length cap) = .slice (some ⟨g, 0, none⟩) (s.now.map (·.1)).length cap := by rw [hnl2.out]
        rw [hnl2.out] at ho2
        exact ⟨g, cap, congrArg Ending.returned e9, ho2, bl_grown hbl (grownBy_sorted _) (fun k hk => by cases hk; exact hbase)⟩
    · intro x i w3 cnt3 hx hxs hlx hrg3 hlt hg3 hs3 hen
      have hown3 : w3.ownsRow w.heap.size 9 1 (.slice (some ⟨g, 0, none⟩) ns.length cap) ns.length (ns.map encStr) := World.ownsRow.kept hown hg3 (.inr (fun e => row_ne_iter hown hrg e.symm))
      have hb3 : Below w.heap.size w w3 := bl_grown hbl hg3 (fun k hk => by cases hk; exact hsz1)
      have HR := Lib.hid hrg
      have hbase : ∀ k, k = g → w.heap.size ≤ k := fun k e => by rw [e]; exact (hown.lt g rfl).1
      have HNB : Hid (some bn ≠ (Value.slice (some ⟨g, 0, none⟩) ns.length cap).ownBlock) := Lib.hid (row_ne_low hown hbnl)
      have HNR : Hid (some w1.heap.size ≠ (Value.slice (some ⟨g, 0, none⟩) ns.length cap).ownBlock) := Lib.hid (row_ne_iter hown hrg)
      have hone : ∀ j u, [Value.string x][j]? = some u → (w3.alloc (.cells #[.string x] 9)).cell? ((⟨wr.heap.size, 0, none⟩ : Addr).add j) = some u := by rw [← hs3]; exact one_cellS _ _ _
      clear hrg hown hg3
      go_wp2_with (at_builtin; refine wpList_append_own _ rfl _ _ 87 rfl w.heap.size 9 i0 (.string ⟨#[]⟩) 1 16 Tryz.underlying87 hi hz0 hz1 hz2 rfl (by decide) _ ns.length _ rfl (World.ownsRow.alloc hown3 _) ⟨wr.heap.size, 0, none⟩ 1 1 [.string x] rfl rfl hone (by simp [Value.oneCell']) (by simp only [maxLen]; omega) (by omega) (by simp; omega) ?_)
      intro v' w4 ho4 hg4 hnn
      have hne4 : v' ≠ .slice none 0 0 := hnn
      rcases ho4.2 with ⟨h0, _⟩ | ⟨g', cap', cur, rfl, _, _, _, _, _, _⟩
      · exact absurd h0 hne4
      · have hb4 : Below w.heap.size w w4 := bl_grown (bl_alloc hb3 _) hg4 (fun k hk => by
          have := hbase k (by simpa [Value.ownBlock] using hk.symm)
          exact this)
        have hrg4 := (hrg3.alloc (.cells #[.string x] 9)).kept hg4 HNB.out HNR.out
        go_wp2
        refine ⟨⟨_, cnt3, ns ++ [x.data.toList], g', cap', by simp, hrg4, ?_, ?_, hb4⟩, ?_⟩
        · have p1 := told_more HI.out.1 hx hlx
          exact (List.perm_append_singleton x.data.toList ns).trans ((hperm.cons _).trans (p1.map Prod.fst).symm)
        · have e5 : (ns ++ [x.data.toList]).map encStr = List.map encStr ns ++ [.string x] := by simp [encStr]
          rw [e5, List.length_append]
          exact ho4
        · rw [hrg4.left_eq, HR.out.left_eq]; exact hlt
end
end Go.Proofs.YtncpkblgiepdpaaGreat
