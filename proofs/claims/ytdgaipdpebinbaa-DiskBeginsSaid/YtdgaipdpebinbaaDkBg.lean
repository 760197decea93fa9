/- Helpers of DiskBegins: three rows of slices of bytes, in an array; what was read at some time. No condition but what each statement names. -/
import Derived.Test.YtdgaipdpebinbaaDkPa
import Derived.Test.YtdgaipdpebinbaaDkPm
set_option linter.unusedVariables false
set_option linter.unusedSimpArgs false
namespace Go.Proofs.Ytdgaipdpebinbaa
open Go.RowKit Go.Maps Go.Shelf Go.Sort Go.ChangeShapes Go.WideShapes Go.ChangeAt

theorem row_same {w w' : World} {B n : Nat} {v : Value} {vals : List Value} (h : w.ownsRow B 30 1 v n vals) (hs : ∀ c, v.ownBlock = some c → w'.heap[c]? = w.heap[c]?) : w'.ownsRow B 30 1 v n vals := by
  rcases h.2 with ⟨e, hn⟩ | ⟨g, cap, cur, e, hb, hg, r⟩
  · exact ⟨h.1, .inl ⟨e, hn⟩⟩
  · exact ⟨h.1, .inr ⟨g, cap, cur, e, hb, (hs g (by rw [e]; rfl)).trans hg, r⟩⟩
theorem row_form {w : World} {B n : Nat} {v : Value} {vals : List Value} (h : w.ownsRow B 30 1 v n vals) : ∃ A c, v = .slice A n c := by
  rcases h.2 with ⟨e, hn⟩ | ⟨g, cap, cur, e, r⟩
  · subst hn; exact ⟨_, _, e⟩
  · exact ⟨_, _, e⟩
/-- Bytes stay, where a block of another kind is written. -/
theorem isB_other {w w' : World} {own : Nat → Option Role} {v : Value} {l : BS} (h : IsB w own v l) {row : Option Nat} (hg : w.grownBy w' row) {T : TypeId} (hT : T ≠ 5) (hr : ∀ g, row = some g → ∃ cs fr, w.heap[g]? = some (.cells cs T fr)) : IsB w' own v l := by
  obtain ⟨A, c, h1, h2, h3, h4, h5⟩ := h
  have key : 0 < l.length → ∀ p, A = some p → w'.heap[p.block]? = w.heap[p.block]? := fun h0 p hp => by
    obtain ⟨cs, fr, hb⟩ := h5 h0 p hp
    refine hg.block _ (lt_of_block hb) (fun e => ?_)
    obtain ⟨cs', fr', hb'⟩ := hr _ e.symm
    rw [hb] at hb'
    cases hb'
    exact hT rfl
  refine ⟨A, c, h1, h2, h3, ⟨fun h0 => ?_, h4.2⟩, fun h0 p hp => ?_⟩
  · obtain ⟨ad, e, hc⟩ := h4.1 h0
    refine ⟨ad, e, fun q hq => ?_⟩
    have hk := key h0 ad e
    rw [← hc q hq]
    unfold World.cell?
    rw [add_block, hk]
  · obtain ⟨cs, fr, hb⟩ := h5 h0 p hp
    exact ⟨cs, fr, (key h0 p hp).trans hb⟩

/-- The law's array: three rows, what was read of each name. -/
structure Hd (w : World) (own : Nat → Option Role) (F B0 : Nat) (vs : Nat → Value) (xs : Nat → List Value) (hs : Nat → List BS) : Prop where
  bf : Blk w F [vs 0, vs 1, vs 2] 29
  nf : own F = none
  val : ∀ k, k < 3 → w.ownsRow B0 30 1 (vs k) (hs k).length (xs k) ∧ (∀ c, (vs k).ownBlock = some c → own c = none ∧ c ≠ F) ∧ ∀ q (h : q < (hs k).length), ∃ u, (xs k)[q]? = some u ∧ IsB w own u ((hs k)[q])
  dis : ∀ j k c, j < 3 → k < 3 → j ≠ k → (vs j).ownBlock = some c → (vs k).ownBlock ≠ some c
section
variable {w w' : World} {own own' : Nat → Option Role} {F B0 : Nat} {vs : Nat → Value} {xs : Nat → List Value} {hs : Nat → List BS}
theorem Hd.kept (h : Hd w own F B0 vs xs hs) (hK : Kept w w' own own') : Hd w' own' F B0 vs xs hs := by
  refine ⟨h.bf.same (hK.block F h.bf.lt h.nf), free_kept hK h.bf.lt h.nf, fun k hk => ?_, h.dis⟩
  obtain ⟨h1, h2, h3⟩ := h.val k hk
  refine ⟨row_same h1 fun c hc => hK.block c (h1.lt c hc).2 (h2 c hc).1, fun c hc => ⟨free_kept hK (h1.lt c hc).2 (h2 c hc).1, (h2 c hc).2⟩, fun q hq => ?_⟩
  obtain ⟨u, hu, hb⟩ := h3 q hq
  exact ⟨u, hu, hb.kept hK⟩
theorem Hd.cellF (h : Hd w own F B0 vs xs hs) {a : Nat} (ha : a < 3) : w.cell? ⟨F, a, none⟩ = some (vs a) := h.bf.cell a _ (at_list vs ha)
theorem Hd.quiet (h : Hd w own F B0 vs xs hs) (hb : Below w.heap.size w w') : Hd w' own F B0 vs xs hs := h.kept (Kept.of_below hb own)
/-- One more behind a row. -/
theorem Hd.add (h : Hd w own F B0 vs xs hs) {a : Nat} (ha : a < 3) {v' : Value} {u : Value} {l : BS} (ho : w'.ownsRow B0 30 1 v' ((hs a).length + 1) (xs a ++ [u])) (hu : IsB w own u l) (hg : w.grownBy w' (vs a).ownBlock) (hb : v'.ownBlock = (vs a).ownBlock ∨ v'.ownBlock = some w.heap.size) (hnew : own w.heap.size = none) :
    Hd (w'.setCell ⟨F, a, none⟩ v') own F B0 (upd vs a v') (upd xs a (xs a ++ [u])) (upd hs a (hs a ++ [l])) := by
  obtain ⟨ha1, ha2, ha3⟩ := h.val a ha
  have hg2 := grown_set w' ⟨F, a, none⟩ v'
  have nF : some F ≠ (vs a).ownBlock := fun e => (ha2 F e.symm).2 rfl
  have hv' : ∀ c, v'.ownBlock = some c → own c = none ∧ c ≠ F := fun c hc => by
    rcases hb with e | e
    · exact ha2 c (e ▸ hc)
    · rw [e] at hc
      cases hc
      have := h.bf.lt
      exact ⟨hnew, by omega⟩
  have hF' := h.bf.same (hg.block F h.bf.lt nF)
  have bytes : ∀ {u : Value} {l : BS}, IsB w own u l → IsB (w'.setCell ⟨F, a, none⟩ v') own u l := fun hi =>
    isB_other (isB_grown hi hg (row_kind ha1)) hg2 (T := 29) (by decide) fun g e => by cases e; exact ⟨_, _, hF'⟩
  refine ⟨?_, h.nf, fun k hk => ?_, fun j k c hj hk hne hc => ?_⟩
  · have h1 := hF'.set a v'
    rw [upd_list vs ha] at h1
    exact h1
  · by_cases e : k = a
    · subst e
      rw [upd_same, upd_same, upd_same]
      refine ⟨?_, hv', fun q hq => ?_⟩
      · rw [List.length_append, List.length_singleton]
        exact row_same ho fun c hc => hg2.block c (ho.lt c hc).2 (by simp; exact (hv' c hc).2)
      · have hlx : (xs k).length = (hs k).length := by have := ha1.1; omega
        rw [List.length_append, List.length_singleton] at hq
        by_cases hq2 : q < (hs k).length
        · obtain ⟨u2, hu2, hb2⟩ := ha3 q hq2
          refine ⟨u2, by rw [List.getElem?_append_left (by omega)]; exact hu2, ?_⟩
          rw [List.getElem_append_left hq2]
          exact bytes hb2
        · have hq3 : q = (hs k).length := by omega
          subst hq3
          refine ⟨u, by rw [List.getElem?_append_right (by omega), hlx]; simp, ?_⟩
          rw [List.getElem_append_right (by omega)]
          simpa using bytes hu
    · rw [upd_other _ _ e, upd_other _ _ e, upd_other _ _ e]
      obtain ⟨h1, h2, h3⟩ := h.val k hk
      refine ⟨row_same h1 fun c hc => ?_, h2, fun q hq => ?_⟩
      · have hlt := (h1.lt c hc).2
        have hne : some c ≠ (vs a).ownBlock := fun e2 => h.dis k a c hk ha e hc e2.symm
        exact (hg2.block c (Nat.lt_of_lt_of_le hlt hg.size) (by simp; exact (h2 c hc).2)).trans (hg.block c hlt hne)
      · obtain ⟨u2, hu2, hb2⟩ := h3 q hq
        exact ⟨u2, hu2, bytes hb2⟩
  · have new : ∀ q, q < 3 → q ≠ a → ∀ c, (vs q).ownBlock = some c → v'.ownBlock ≠ some c := fun q hq hqa c hc e => by
      rcases hb with e2 | e2
      · exact h.dis q a c hq ha hqa hc (e2 ▸ e)
      · rw [e2] at e
        cases e
        have := ((h.val q hq).1.lt _ hc).2
        omega
    by_cases ej : j = a
    · subst ej
      rw [upd_same] at hc
      rw [upd_other _ _ (fun e => hne e.symm)]
      exact fun e => new k hk (fun e => hne e.symm) c e hc
    · rw [upd_other _ _ ej] at hc
      by_cases ek : k = a
      · subst ek
        rw [upd_same]
        exact new j hj ej c hc
      · rw [upd_other _ _ ek]
        exact h.dis j k c hj hk hne hc
/-- A row's cell. -/
theorem Hd.cellR (h : Hd w own F B0 vs xs hs) {k q : Nat} (hk : k < 3) (hq : q < (hs k).length) : ∃ A c, vs k = .slice (some ⟨A, 0, none⟩) (hs k).length c ∧ (hs k).length ≤ c ∧ ∃ u, w.cell? ((⟨A, 0, none⟩ : Addr).add q) = some u ∧ IsB w own u ((hs k)[q]) := by
  obtain ⟨h1, h2, h3⟩ := h.val k hk
  obtain ⟨u, hu, hb⟩ := h3 q hq
  rcases h1.2 with ⟨e, hn⟩ | ⟨g, cap, cur, e, hb', hg, hnc, r⟩
  · omega
  · exact ⟨g, cap, e, hnc, u, World.ownsRow.cells h1 (g := g) (by rw [e]; rfl) q u hu, hb⟩
end

/-- All that was read, of whichever name. -/
def allE (hs : Nat → List BS) : List BS := hs 0 ++ hs 1 ++ hs 2
theorem mem_all {hs : Nat → List BS} {y : BS} : y ∈ allE hs ↔ ∃ k, k < 3 ∧ y ∈ hs k := by
  unfold allE
  simp only [List.mem_append]
  constructor
  · rintro ((h | h) | h)
    · exact ⟨0, by omega, h⟩
    · exact ⟨1, by omega, h⟩
    · exact ⟨2, by omega, h⟩
  · rintro ⟨k, hk, h⟩
    have : k = 0 ∨ k = 1 ∨ k = 2 := by omega
    rcases this with rfl | rfl | rfl
    · exact .inl (.inl h)
    · exact .inl (.inr h)
    · exact .inr h
/-- A round of reads has been done up to the k-th name: nothing is lost, and what these names read as is there. -/
structure Seen (s : DS) (old hs : Nat → List BS) (k : Nat) : Prop where
  keep : ∀ q y, q < 3 → y ∈ old q → y ∈ hs q
  got : ∀ q y, q < k → rdE s (nm q) = some y → y ∈ hs q
  few : ∀ q, q < 3 → (hs q).length ≤ (old q).length + 1
  rest : ∀ q, q < 3 → k ≤ q → hs q = old q
theorem seen_none {s : DS} {old hs : Nat → List BS} {k : Nat} (h : Seen s old hs k) (hn : rdE s (nm k) = none) : Seen s old hs (k + 1) :=
  ⟨h.keep, fun q y hq hy => by
    by_cases e : q = k
    · subst e; rw [hn] at hy; cases hy
    · exact h.got q y (by omega) hy, h.few, fun q hq hk => h.rest q hq (by omega)⟩
theorem seen_some {s : DS} {old hs : Nat → List BS} {k : Nat} (hk : k < 3) (h : Seen s old hs k) {b : BS} (hb : rdE s (nm k) = some b) : Seen s old (upd hs k (hs k ++ [b])) (k + 1) :=
  ⟨fun q y hq hy => by
    have h1 := h.keep q y hq hy
    by_cases e : q = k
    · subst e; rw [upd_same]; exact List.mem_append_left _ h1
    · rw [upd_other _ _ e]; exact h1, fun q y hq hy => by
    by_cases e : q = k
    · subst e; rw [hb] at hy; cases hy; rw [upd_same]; simp
    · rw [upd_other _ _ e]; exact h.got q y (by omega) hy, fun q hq => by
    by_cases e : q = k
    · subst e; rw [upd_same, List.length_append, List.length_singleton, h.rest q hq (Nat.le_refl _)]
      exact Nat.le_refl _
    · rw [upd_other _ _ e]; exact h.few q hq, fun q hq h2 => by
    rw [upd_other _ _ (by omega)]; exact h.rest q hq (by omega)⟩
theorem seen_start (s : DS) (hs : Nat → List BS) : Seen s hs hs 0 := ⟨fun _ _ _ h => h, fun q y h => by omega, fun q _ => by omega, fun _ _ _ => rfl⟩
theorem had_step {s : DS} {old hs : Nat → List BS} (hi : DInv s) (h : Had s (allE old)) (x : Dd) {g : Nat} (hg : g < 3) (hn : x.name = nm g) (ht : Seen (dE s x).1 old hs 3) : Had (dE s x).1 (allE hs) :=
  had_d hi h x (allE hs) (fun y hy => by
    obtain ⟨k, hk, hy⟩ := mem_all.1 hy
    exact mem_all.2 ⟨k, hk, ht.keep k y hk hy⟩) fun y hy => by
    rw [hn] at hy
    exact mem_all.2 ⟨g, hg, ht.got g y hg hy⟩
theorem had_new (r : Nat) (had : List BS) : Had (newE r) had := fun i f hf => by
  have : (newE r).files = [] := rfl
  rw [this] at hf
  simp at hf
end Go.Proofs.Ytdgaipdpebinbaa
