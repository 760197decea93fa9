/- What the program's disk answers to Read, Left, Dead, Boot, and what New makes: contracts over the translated program. No condition but that the disk lies in memory as said, and what each statement names. -/
import Derived.Test.YtncpkblgiepdpaaGreatDkJ
set_option linter.unusedVariables false
namespace Go.Proofs.YtncpkblgiepdpaaGreat
open Go.RowKit Go.Maps

/-- Bytes that a call made itself. -/
def GotOwn (w : World) (l : BS) (e : Ending) (w' : World) : Prop := ∃ v', e = .returned v' ∧ Own w' w.heap.size v' l ∧ Below w.heap.size w w'
theorem bclone_any {v : Value} {l : BS} (w : World) (h : Own w 0 v l) (hs : l.length ≤ 1099511627776) : Calls Tryz.prog 80 #[v] w (GotOwn w l) := by
  rcases h.2 with ⟨rfl, hn⟩ | ⟨g, cap, cur, rfl, _, hg, hnc, hcm, hcs, ht⟩
  · have hl : l = [] := List.length_eq_zero_iff.1 hn
    subst hl
    refine (Tryz.bytes_Clone_nil 0 0 w).mono ?_
    rintro e w' ⟨rfl, rfl⟩
    exact ⟨_, rfl, Own.nil _ _, Below.refl _ _⟩
  · have hx : (l.map fun b => (b.toNat : Int)).length = l.length := by simp
    refine (Tryz.bytes_Clone_at ⟨g, 0, none⟩ l.length cap (l.map fun b => (b.toNat : Int)) w hx (by omega) (fun i hi => ?_)).mono ?_
    · have := World.ownsRow.cells h (g := g) rfl i (bv l[i]) (by simp [hi])
      rw [this]
      simp [bv, hi]
    · rintro e w' ⟨v', rfl, ho, _, hb⟩
      refine ⟨v', rfl, ?_, hb⟩
      have e1 : List.map (Value.int IntKind.u8) (l.map fun b => (b.toNat : Int)) = l.map bv := by simp [bv]
      rw [e1] at ho
      exact ho

section
variable {w : World} {own : Nat → Option Role} {d bn bk : Nat} {loc : Nat → Nat} {s : DS} {L : Nat → Prop}

/-- What Read tells of a name. -/
def GotRead (w : World) (o : Option BS) (e : Ending) (w' : World) : Prop :=
  ∃ v, e = .returned (.tuple #[v, .int .i64 (if o.isSome then 0 else 50)]) ∧ Own w' w.heap.size v (o.getD []) ∧ Below w.heap.size w w'
theorem read_any (hA : At w own d bn bk loc s (Ref s)) (hI : OkM s.files.length s.now) (hF : Fit s.files) (hd : s.dead = false) (t : ByteArray) (ht : t.size ≤ maxLen) :
    Calls Tryz.prog 54 #[.pointer (some ⟨d, 0, none⟩), .string t] w (GotRead w (rdE s t.data.toList)) := by
  have hq := find_any hA hd t ht
  clear hd
  cases hn : getE s.now t.data.toList with
  | none =>
    rw [hn] at hq
    have e1 : rdE s t.data.toList = none := by simp only [rdE, hn, Option.bind_none]
    rw [e1]
    go_enter Tryz.func54, Tryz.ntmps54
    go_wp2_with ((with_reducible refine hq.mono ?_); rintro e w' ⟨rfl, rfl⟩; simp only [Option.map_none, pv])
    go_ret2
    exact ⟨_, rfl, Own.nil _ _, Below.refl _ _⟩
  | some i =>
    rw [hn] at hq
    have hl := hI.get hn
    have hf : s.files[i]? = some s.files[i] := List.getElem?_eq_getElem hl
    have e1 : rdE s t.data.toList = some s.files[i].data := by simp only [rdE, hn, Option.bind_some, hf, Option.map_some]
    rw [e1]
    have hlen : s.files[i].data.length ≤ 1099511627776 := Nat.le_trans (data_le hf) hF
    obtain ⟨o1, v, g1, g2, g3⟩ := hA.file i _ hf (ref_get hI.1 hn)
    have hcl := bclone_any w g2 hlen
    obtain ⟨A, n, c, rfl, hnl, hnc, hcm, hr⟩ := g2.form
    have f3 := g1.cell 3 _ rfl
    go_enter Tryz.func54, Tryz.ntmps54
    go_wp2_with (go_at_call 98; (with_reducible refine hq.mono ?_); rintro e w' ⟨rfl, rfl⟩; simp only [Option.map_some, pv])
    refine hcl.mono ?_
    rintro e w2 ⟨v', rfl, ho, hb⟩
    go_wp2
    go_ret2
    exact ⟨_, rfl, ho, hb⟩

theorem left_any (hA : At w own d bn bk loc s L) (hd : s.dead = false) (h1 : s.room ≤ 16777216) (h2 : s.used ≤ 1099511627776) :
    Calls Tryz.prog 106 #[.pointer (some ⟨d, 0, none⟩)] w (fun e w' => e = .returned (.int .i64 ((s.room : Int) - (s.used : Int))) ∧ w' = w.drew) := by
  have hq := refusal_any hA hd
  clear hd
  have c1 := hA.cellD 1 _ fun _ => rfl
  have c2 := hA.cellD 2 _ fun _ => rfl
  have wr : IntKind.i64.wrap ((s.room : Int) - (s.used : Int)) = (s.room : Int) - (s.used : Int) := wrap_in _ (by omega) (by omega)
  go_enter Tryz.func106, Tryz.ntmps106
  go_wp2_with ((with_reducible refine hq.mono ?_); rintro e w' ⟨rfl, rfl⟩)
  go_region
  all_goals
    go_wp2
    go_ret
    exact ⟨rfl, rfl⟩
theorem left_dead (hA : At w own d bn bk loc s L) (hd : s.dead = true) : Calls Tryz.prog 106 #[.pointer (some ⟨d, 0, none⟩)] w (GotV w (.int .i64 0)) := by
  have hq := refusal_dead hA hd
  clear hd
  go_enter Tryz.func106, Tryz.ntmps106
  go_wp2_with ((with_reducible refine hq.mono ?_); rintro e w' ⟨rfl, rfl⟩)
  go_ret
  exact ⟨rfl, rfl⟩
theorem dead_any (hA : At w own d bn bk loc s L) : Calls Tryz.prog 24 #[.pointer (some ⟨d, 0, none⟩)] w (GotV w (.bool s.dead)) := by
  have hq := isNone_any hA
  have c0 := hA.cellD 0 _ fun _ => rfl
  go_enter Tryz.func24, Tryz.ntmps24
  go_wp2_with ((with_reducible refine hq.mono ?_); rintro e w' ⟨rfl, rfl⟩)
  go_ret
  exact ⟨rfl, rfl⟩
theorem names_dead (hA : At w own d bn bk loc s L) (hd : s.dead = true) : Calls Tryz.prog 53 #[.pointer (some ⟨d, 0, none⟩)] w (GotV w (.slice none 0 0)) := by
  have hq := refusal_dead hA hd
  clear hd
  go_enter Tryz.func53, Tryz.ntmps53
  go_wp2_with ((with_reducible refine hq.mono ?_); rintro e w' ⟨rfl, rfl⟩)
  go_ret
  exact ⟨rfl, rfl⟩
theorem boot_any (hA : At w own d bn bk loc s L) : Calls Tryz.prog 25 #[.pointer (some ⟨d, 0, none⟩)] w (fun e w' => e = .returned (.tuple #[]) ∧ At w' own d bn bk loc (bootE s) L ∧ Kept w w' own own) := by
  have hq := isNone_any hA
  have c0 := hA.cellD 0 _ fun _ => rfl
  have c7 := hA.cellD 7 _ fun _ => rfl
  have z0 := hA.freeD 0
  have z7 := hA.freeD 7
  go_enter Tryz.func25, Tryz.ntmps25
  go_wp2_with ((with_reducible refine hq.mono ?_); rintro e w' ⟨rfl, rfl⟩)
  go_end0
  have h1 : At (w'.setCell ⟨d, 0, none⟩ (.bool false)) own d bn bk loc (bootE s) L := hA.setDisk 0 (.bool false) (bootE s) (fun vw => rfl) rfl rfl rfl rfl
  have h2 : At ((w'.setCell ⟨d, 0, none⟩ (.bool false)).setCell ⟨d, 7, none⟩ (.pointer none)) own d bn bk loc (bootE s) L := h1.setDisk 7 (.pointer none) (bootE s) (fun vw => rfl) rfl rfl rfl rfl
  exact ⟨rfl, h2, ((Kept.refl _ _).set (by rw [hA.rd]; simp) _).set (by rw [hA.rd]; simp) _⟩

def newOwn (H : Nat) : Nat → Option Role := fun b => if b = H then some .now else if b = H + 1 then some .kept else if b = H + 2 then some .disk else none
theorem newOwn_some {H b : Nat} {r : Role} (h : newOwn H b = some r) : H ≤ b ∧ b < H + 3 := by
  unfold newOwn at h
  split at h
  · omega
  · split at h
    · omega
    · split at h
      · omega
      · cases h
theorem new_any (w : World) (n : Nat) (hn : n ≤ 16777216) : Calls Tryz.prog 15 #[.int .i64 (n : Int)] w (fun e w' => ∃ own d, e = .returned (.tuple #[.pointer (some ⟨d, 0, none⟩), .int .i64 0]) ∧ DiskIn w' own d (newE n) ∧ (∀ b, own b ≠ none → w.heap.size ≤ b) ∧ Below w.heap.size w w') := by
  have hmk : ∀ w : World, (Instr.makeMap 75 none).run Tryz.prog w = .ok (.map (some w.heap.size)) (w.alloc (.map #[] 0)) := fun _ => rfl
  go_enter Tryz.func15, Tryz.ntmps15
  go_wp2
  go_ret2
  have m1 : ((w.alloc (.map #[] 0)).alloc (.map #[] 0)).ownsMap Tryz.prog 9 RP w.heap.size 0 (DM (fun _ => 0) []) := (World.ownsMap_made w _ _ _).alloc _
  have m2 : ((w.alloc (.map #[] 0)).alloc (.map #[] 0)).ownsMap Tryz.prog 9 RP (w.heap.size + 1) 0 (DM (fun _ => 0) []) := by
    have := World.ownsMap_made (w.alloc (.map #[] 0)) Tryz.prog 9 RP
    simp at this
    exact this
  refine ⟨newOwn w.heap.size, w.heap.size + 2, by simp, ⟨w.heap.size, w.heap.size + 1, fun _ => 0, ?_⟩, fun b hb => ?_, ?_⟩
  · refine ⟨by simp [newOwn], by simp [newOwn], by simp [newOwn], fun b r e => ?_, ⟨.slice none 0 0, ?_, World.ownsRow_nil _ _ _ _, by simp [Value.ownBlock]⟩, mapAt_of (m1.alloc _), mapAt_of (m2.alloc _), fun i f hf => by simp [newE] at hf⟩
    · have := (newOwn_some e).2
      simp
      omega
    · have := heap_alloc_new ((w.alloc (.map #[] 0)).alloc (.map #[] 0)) (.cells #[.bool false, .int .i64 (n : Int), .int .i64 0, .int .i64 0, .map (some w.heap.size), .map (some (w.heap.size + 1)), .slice none 0 0, .pointer none] 79)
      have e2 : ((w.alloc (.map #[] 0)).alloc (.map #[] 0)).heap.size = w.heap.size + 2 := by simp
      rw [e2] at this
      exact this
  · cases e : newOwn w.heap.size b with
    | none => exact absurd e hb
    | some r => exact (newOwn_some e).1
  · exact (((Below.refl _ w).alloc (Nat.le_refl _) _).alloc (by simp) _).alloc (by simp; omega) _
end
end Go.Proofs.YtncpkblgiepdpaaGreat
