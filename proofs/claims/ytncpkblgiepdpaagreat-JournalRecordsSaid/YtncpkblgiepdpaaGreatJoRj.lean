/- The document's own reading of a record: contracts over the translated program. No condition but what each statement names. -/
import Derived.Test.YtncpkblgiepdpaaGreatJoRh
import Derived.Test.YtncpkblgiepdpaaGreatJoRi
set_option linter.unusedVariables false
set_option linter.unusedSimpArgs false
namespace Go.Proofs.YtncpkblgiepdpaaGreat
open Go.RowKit

theorem wrap_small (x : Int) (h1 : 0 ≤ x) (h2 : x ≤ 1000000000) : IntKind.i64.wrap x = x := by rw [IntKind.wrap_i64]; omega
/-- A block of bytes. -/
def IsU8 (w : World) (g : Nat) : Prop := ∃ cs fr, w.heap[g]? = some (.cells cs 5 fr)
theorem IsU8.below {w w' : World} {g : Nat} (h : IsU8 w g) (hb : Below w.heap.size w w') : IsU8 w' g := by
  obtain ⟨cs, fr, e⟩ := h
  exact ⟨cs, fr, (hb.block g (Array.getElem?_eq_some_iff.1 e).1).trans e⟩
/-- Bytes that are read, out of a block of bytes. -/
def RdU (w : World) (A : Option Addr) (l : List UInt8) : Prop := Rd w A l ∧ ∀ ad, A = some ad → IsU8 w ad.block
theorem RdU.below {w w' : World} {A : Option Addr} {l : List UInt8} (h : RdU w A l) (hb : Below w.heap.size w w') : RdU w' A l := ⟨h.1.below hb, fun ad e => (h.2 ad e).below hb⟩
theorem Own.isU8 {w : World} {base : Nat} {A : Option Addr} {n c : Nat} {l : List UInt8} (h : Own w base (.slice A n c) l) : ∀ ad, A = some ad → IsU8 w ad.block := by
  intro ad e
  rcases h.2 with ⟨h1, _⟩ | ⟨g, cap, cur, hv, _, hg, _⟩
  · cases h1; cases e
  · cases hv; cases e; exact ⟨_, _, hg⟩
theorem cut_atU (A : Option Addr) (n c s : Nat) (l : List UInt8) (w : World) (hl : l.length = n) (hr : Rd w A l) (hs : s ≤ n) (hnc : n ≤ c) (z : Int) (hz : (s : Int) = z) (hU : ∀ ad, A = some ad → IsU8 w ad.block) :
    ∃ A1, (∀ W : World, (Instr.slice 22 (.slice A n c) (some (.int .i64 z)) none none).run Tryz.prog W = .ok (.slice A1 (n - s) (c - s)) W) ∧ RdU w A1 (l.drop s) := by
  subst hz
  refine ⟨if c = s then A else A.map (·.add s), fun W => ?_, hr.drop s c (by omega), fun ad e => ?_⟩
  · obtain ⟨i, hi, _, hs1, _⟩ := info_parts info_u8
    have he : Tryz.prog.elem 22 = 5 := by kernel_rfl
    rw [run_slice_l W 22 A n c (by rw [he]; exact Tryz.underlying22) .i64 s (by omega) (by omega)]
    simp [sizeOf, typeInfo, he, hi, hs1, sliced, Result.andThen]
  · split at e
    · exact hU ad e
    · obtain ⟨ad0, e0, rfl⟩ := Option.map_eq_some_iff.1 e
      rw [add_block]
      exact hU ad0 e0
/-- Bytes that are read, how many they are written with, and an error. -/
def GotOne (w : World) (r : List UInt8) (k er : Nat) (e : Ending) (w' : World) : Prop := ∃ A c, e = .returned (.tuple #[.slice A r.length c, .int .i64 (k : Int), .int .i64 (er : Int)]) ∧ r.length ≤ c ∧ c ≤ maxLen ∧ RdU w' A r ∧ Below w.heap.size w w'
def oneE (b : List UInt8) (n : Nat) : List UInt8 × Nat × Nat := if (takenE b n).2 = 0 then ((takenE b n).1, (takenE b n).1.length + 20, 0) else if (takenE b n).2 = 3 then ([], 0, 0) else ([], 0, 70)
set_option maxHeartbeats 4000000 in
set_option maxRecDepth 40000 in
theorem one_any (A : Option Addr) (m c : Nat) (b : List UInt8) (n : Nat) (w : World) (hl : b.length = m) (hr : Rd w A b) (hmc : m ≤ c) (hc : c ≤ maxLen) (hm : m ≤ 140737488355328) (hn : n ≤ 9007199254740991) :
    Calls Tryz.prog 33 #[.slice A m c, .int .i64 (n : Int)] w (GotOne w (oneE b n).1 (oneE b n).2.1 (oneE b n).2.2) := by
  by_cases h16 : m < 16
  · have e : oneE b n = ([], 0, 0) := by
      have : takenE b n = ([], 3) := by unfold takenE; rw [if_pos (by omega)]
      unfold oneE
      rw [this]
      rfl
    rw [e]
    clear hl hr
    go_enter Tryz.func33, Tryz.ntmps33
    go_wp2_with fail
    go_ret3
    exact ⟨none, 0, rfl, Nat.le_refl _, by simp [maxLen], ⟨fun h => by simp at h, fun _ h => by cases h⟩, Below.refl _ _⟩
  have h16' : 16 ≤ b.length := by omega
  have hhp := head_pieces (n := n) h16' (by omega)
  have hm4 : (4 : Int) < (m : Int) := by omega
  obtain ⟨k, hk⟩ : ∃ k, k = beN (b.take 4) := ⟨_, rfl⟩
  have hk4 : k < 4294967296 := by
    have := beN_lt (b.take 4)
    rw [List.length_take, Nat.min_eq_left (by omega)] at this
    rw [hk]; exact this
  have ht4 := told_ref A 4 c (b.take 4) w (by rw [List.length_take]; omega) (hr.take 4) (by omega) (by omega)
  rw [← hk] at ht4 hhp
  have c4 := cut_to A m c 4 (by omega) hmc 4 rfl
  have c12 := cut_to A m c 12 (by omega) hmc 12 rfl
  obtain ⟨A1, cX, hrX, hlX⟩ := cut_mid A m c 12 4 b w hl hr (by omega) hmc 12 16 rfl rfl
  obtain ⟨A2, cY, hrY, hlY⟩ := cut_mid A m c 4 8 b w hl hr (by omega) hmc 4 12 rfl rfl
  obtain ⟨ad, rfl, h4⟩ := hr.cell (k := 4) (by omega)
  have a4 : w.cell? ⟨ad.block, ad.off + 4, none⟩ = some (.int .u8 ((b[4]'(by omega)).toNat : Int)) := by simpa [Addr.add] using h4
  have hY4 : (((b.take (4 + 8)).drop 4)[0]'(by have := hlY.out; omega)) = b[4]'(by omega) := by simp
  obtain ⟨x4, hx4⟩ : ∃ x4, x4 = b[4]'(by omega) := ⟨_, rfl⟩
  rw [← hx4] at a4 hY4
  have hof := fun w' (hb : Below w.heap.size w w') => refOf_any (some ad) 12 c (b.take 12) w' (by rw [List.length_take]; omega) ((hr.take 12).below hb) (by simp [maxLen])
  have hsum := fun w' (hb : Below w.heap.size w w') => isSum_any A1 (c - 12) ((b.take (12 + 4)).drop 12) (ofE (b.take 12)) w' hlX.out (hrX.below hb)
  have HT4 := Lib.hid ht4
  have HOF := Lib.hid hof
  have HL := Lib.hid hl
  clear ht4 hof h4
  have hT : takenE b n = if 262144 < k ∨ ¬ hdE n k <+: b then ([], 70) else if (b.drop 16).length < k + 4 then ([], 3) else if ¬ leB (lastE n ((b.drop 16).take k)) <+: (b.drop 16).drop k then ([], 70) else ((b.drop 16).take k, 0) := by
    have := takenE.eq_1 b n
    rw [if_neg (by omega), ← hk] at this
    exact this
  by_cases hX : (b.take 16).drop 12 = leB (ofE (b.take 12))
  rotate_left
  · have hs2 : ∀ w', Below w.heap.size w w' → Calls Tryz.prog 82 #[.slice A1 4 (c - 12), .int .u32 ((ofE (b.take 12)).toNat : Int)] w' (fun e w2 => e = .returned (.bool false) ∧ Below w'.heap.size w' w2) := fun w' hb => (hsum w' hb).mono fun e w2 h => ⟨h.1.trans (by rw [decide_eq_false hX]), h.2⟩
    have HS2 := Lib.hid hs2
    clear hs2
    have e : oneE b n = ([], 0, 70) := by
      have : takenE b n = ([], 70) := by rw [hT, if_pos (.inr (by rw [hhp]; exact fun h => hX h.1))]
      unfold oneE
      rw [this]
      rfl
    rw [e]
    clear hsum hX hhp hT e hk hY4 hx4 hrX hlX hrY hlY hr h16' hl
    go_enter Tryz.func33, Tryz.ntmps33
    go_wp2_with fail
    refine HT4.out.mono ?_
    rintro e w1 ⟨rfl, rfl⟩
    go_wp2_with fail
    refine wp_region_held_drew (S := fun w' => w'.cell? ⟨ad.block, ad.off + 4, none⟩ = some (.int .u8 (x4.toNat : Int)) ∧ Below w.heap.size w w') (by kernel_rfl) ⟨a4, Below.drew (Below.refl _ _)⟩ (fun hHeld => ?_)
    refine wpAnyH_take (i := 0) (v := ?vz0x0) rfl (by kernel_rfl) (by kernel_rfl) (by kernel_rfl) (fun _ _ _ h => h) (Or.inl ⟨by rfl, ?yz0x0⟩) hHeld ?rz0x0
    case yz0x0 => (intro wS hSw; obtain ⟨hS1, hS2⟩ := hSw; go_simp; try (with_reducible rfl))
    try simp only [List.getElem_toArray, List.getElem_cons_zero, List.getElem_cons_succ, Act.put, List.setIfInBounds_toArray, List.set_cons_zero, List.set_cons_succ]
    refine wpAnyH_take (i := 1) (v := ?vz0x1) rfl (by kernel_rfl) (by kernel_rfl) (by kernel_rfl) (fun _ _ _ h => h) (Or.inl ⟨by rfl, ?yz0x1⟩) hHeld ?rz0x1
    case yz0x1 => (intro wS hSw; obtain ⟨hS1, hS2⟩ := hSw; go_simp; try (with_reducible rfl))
    try simp only [List.getElem_toArray, List.getElem_cons_zero, List.getElem_cons_succ, Act.put, List.setIfInBounds_toArray, List.set_cons_zero, List.set_cons_succ]
    refine wpAnyH_take (i := 2) (v := ?vz0x2) rfl (by kernel_rfl) (by kernel_rfl) (by kernel_rfl) (fun _ _ _ h => h) (Or.inl ⟨by rfl, ?yz0x2⟩) hHeld ?rz0x2
    case yz0x2 => (intro wS hSw; obtain ⟨hS1, hS2⟩ := hSw; go_simp; try (with_reducible rfl))
    try simp only [List.getElem_toArray, List.getElem_cons_zero, List.getElem_cons_succ, Act.put, List.setIfInBounds_toArray, List.set_cons_zero, List.set_cons_succ]
    refine wpAnyH_take (i := 3) (v := ?vz0x3) rfl (by kernel_rfl) (by kernel_rfl) (by kernel_rfl) (fun _ _ _ h => h) (Or.inl ⟨by rfl, ?yz0x3⟩) hHeld ?rz0x3
    case yz0x3 => (intro wS hSw; obtain ⟨hS1, hS2⟩ := hSw; go_simp; try (with_reducible rfl))
    try simp only [List.getElem_toArray, List.getElem_cons_zero, List.getElem_cons_succ, Act.put, List.setIfInBounds_toArray, List.set_cons_zero, List.set_cons_succ]
    refine wpAnyH_ready (rs := [4]) (by kernel_rfl) (by simp) (AllReadyH.cons rfl (fun K hK => ?_) AllReadyH.nil)
    go_simp
    go_at_call 31; refine (HOF.out _ hHeld.2).mono ?_
    rintro e w2 ⟨rfl, rfl⟩
    go_wp2_with fail
    refine hK.out _ _ hHeld (fun hHeld => ?_)
    clear hK K
    try simp only [List.getElem_toArray, List.getElem_cons_zero, List.getElem_cons_succ, Act.put, List.setIfInBounds_toArray, List.set_cons_zero, List.set_cons_succ]
    refine wpAnyH_ready (rs := [5]) (by kernel_rfl) (by simp) (AllReadyH.cons rfl (fun K hK => ?_) AllReadyH.nil)
    go_simp
    go_at_call 82; refine (HS2.out _ hHeld.2).mono ?_
    rintro e w3 ⟨rfl, hb3⟩
    have hH3 := And.intro ((hb3.cell (World.block_lt_of_cell? _ _ hHeld.1)).trans hHeld.1) (bl_trans hHeld.2 hb3)
    clear hHeld
    go_wp2_with fail
    refine hK.out _ _ hH3 (fun hHeld => ?_)
    clear hK K
    try simp only [List.getElem_toArray, List.getElem_cons_zero, List.getElem_cons_succ, Act.put, List.setIfInBounds_toArray, List.set_cons_zero, List.set_cons_succ]
    refine wpAnyH_take (i := 6) (v := ?vz0x6) rfl (by kernel_rfl) (by kernel_rfl) (by kernel_rfl) (fun _ _ _ h => h) (Or.inl ⟨by rfl, ?yz0x6⟩) hHeld ?rz0x6
    case yz0x6 => (intro wS hSw; obtain ⟨hS1, hS2⟩ := hSw; go_simp; try (with_reducible rfl))
    try simp only [List.getElem_toArray, List.getElem_cons_zero, List.getElem_cons_succ, Act.put, List.setIfInBounds_toArray, List.set_cons_zero, List.set_cons_succ]
    refine wpAnyH_take (i := 7) (v := ?vz0x7) rfl (by kernel_rfl) (by kernel_rfl) (by kernel_rfl) (fun _ _ _ h => h) (Or.inl ⟨by rfl, ?yz0x7⟩) hHeld ?rz0x7
    case yz0x7 => (intro wS hSw; obtain ⟨hS1, hS2⟩ := hSw; go_simp; try (with_reducible rfl))
    try simp only [List.getElem_toArray, List.getElem_cons_zero, List.getElem_cons_succ, Act.put, List.setIfInBounds_toArray, List.set_cons_zero, List.set_cons_succ]
    refine wpAnyH_take (i := 8) (v := undef) rfl (by kernel_rfl) (by kernel_rfl) (by kernel_rfl) (fun _ _ _ h => h) (Or.inr ⟨by rfl, rfl⟩) hHeld ?rz0x8
    try simp only [List.getElem_toArray, List.getElem_cons_zero, List.getElem_cons_succ, Act.put, List.setIfInBounds_toArray, List.set_cons_zero, List.set_cons_succ]
    refine wpAnyH_take (i := 9) (v := undef) rfl (by kernel_rfl) (by kernel_rfl) (by kernel_rfl) (fun _ _ _ h => h) (Or.inr ⟨by rfl, rfl⟩) hHeld ?rz0x9
    try simp only [List.getElem_toArray, List.getElem_cons_zero, List.getElem_cons_succ, Act.put, List.setIfInBounds_toArray, List.set_cons_zero, List.set_cons_succ]
    refine wpAnyH_take (i := 10) (v := undef) rfl (by kernel_rfl) (by kernel_rfl) (by kernel_rfl) (fun _ _ _ h => h) (Or.inr ⟨by rfl, rfl⟩) hHeld ?rz0x10
    try simp only [List.getElem_toArray, List.getElem_cons_zero, List.getElem_cons_succ, Act.put, List.setIfInBounds_toArray, List.set_cons_zero, List.set_cons_succ]
    refine wpAnyH_take (i := 11) (v := undef) rfl (by kernel_rfl) (by kernel_rfl) (by kernel_rfl) (fun _ _ _ h => h) (Or.inr ⟨by rfl, rfl⟩) hHeld ?rz0x11
    try simp only [List.getElem_toArray, List.getElem_cons_zero, List.getElem_cons_succ, Act.put, List.setIfInBounds_toArray, List.set_cons_zero, List.set_cons_succ]
    refine wpAnyH_take (i := 12) (v := ?vz0x12) rfl (by kernel_rfl) (by kernel_rfl) (by kernel_rfl) (fun _ _ _ h => h) (Or.inl ⟨by rfl, ?yz0x12⟩) hHeld ?rz0x12
    case yz0x12 => (intro wS hSw; obtain ⟨hS1, hS2⟩ := hSw; go_simp; try (with_reducible rfl))
    try simp only [List.getElem_toArray, List.getElem_cons_zero, List.getElem_cons_succ, Act.put, List.setIfInBounds_toArray, List.set_cons_zero, List.set_cons_succ]
    refine wpAnyH_take (i := 13) (v := ?vz0x13) rfl (by kernel_rfl) (by kernel_rfl) (by kernel_rfl) (fun _ _ _ h => h) (Or.inl ⟨by rfl, ?yz0x13⟩) hHeld ?rz0x13
    case yz0x13 => (intro wS hSw; obtain ⟨hS1, hS2⟩ := hSw; go_simp; try (with_reducible rfl))
    try simp only [List.getElem_toArray, List.getElem_cons_zero, List.getElem_cons_succ, Act.put, List.setIfInBounds_toArray, List.set_cons_zero, List.set_cons_succ]
    refine wpAnyH_take (i := 14) (v := undef) rfl (by kernel_rfl) (by kernel_rfl) (by kernel_rfl) (fun _ _ _ h => h) (Or.inr ⟨by rfl, rfl⟩) hHeld ?rz0x14
    try simp only [List.getElem_toArray, List.getElem_cons_zero, List.getElem_cons_succ, Act.put, List.setIfInBounds_toArray, List.set_cons_zero, List.set_cons_succ]
    refine wpAnyH_take (i := 15) (v := undef) rfl (by kernel_rfl) (by kernel_rfl) (by kernel_rfl) (fun _ _ _ h => h) (Or.inr ⟨by rfl, rfl⟩) hHeld ?rz0x15
    try simp only [List.getElem_toArray, List.getElem_cons_zero, List.getElem_cons_succ, Act.put, List.setIfInBounds_toArray, List.set_cons_zero, List.set_cons_succ]
    refine wpAnyH_take (i := 16) (v := undef) rfl (by kernel_rfl) (by kernel_rfl) (by kernel_rfl) (fun _ _ _ h => h) (Or.inr ⟨by rfl, rfl⟩) hHeld ?rz0x16
    try simp only [List.getElem_toArray, List.getElem_cons_zero, List.getElem_cons_succ, Act.put, List.setIfInBounds_toArray, List.set_cons_zero, List.set_cons_succ]
    refine wpAnyH_take (i := 17) (v := undef) rfl (by kernel_rfl) (by kernel_rfl) (by kernel_rfl) (fun _ _ _ h => h) (Or.inr ⟨by rfl, rfl⟩) hHeld ?rz0x17
    try simp only [List.getElem_toArray, List.getElem_cons_zero, List.getElem_cons_succ, Act.put, List.setIfInBounds_toArray, List.set_cons_zero, List.set_cons_succ]
    refine wpAnyH_take (i := 18) (v := undef) rfl (by kernel_rfl) (by kernel_rfl) (by kernel_rfl) (fun _ _ _ h => h) (Or.inr ⟨by rfl, rfl⟩) hHeld ?rz0x18
    try simp only [List.getElem_toArray, List.getElem_cons_zero, List.getElem_cons_succ, Act.put, List.setIfInBounds_toArray, List.set_cons_zero, List.set_cons_succ]
    refine wpAnyH_take (i := 19) (v := ?vz0x19) rfl (by kernel_rfl) (by kernel_rfl) (by kernel_rfl) (fun _ _ _ h => h) (Or.inl ⟨by rfl, ?yz0x19⟩) hHeld ?rz0x19
    case yz0x19 => (intro wS hSw; obtain ⟨hS1, hS2⟩ := hSw; go_simp; try (with_reducible rfl))
    try simp only [List.getElem_toArray, List.getElem_cons_zero, List.getElem_cons_succ, Act.put, List.setIfInBounds_toArray, List.set_cons_zero, List.set_cons_succ]
    refine wpAnyH_take (i := 20) (v := ?vz0x20) rfl (by kernel_rfl) (by kernel_rfl) (by kernel_rfl) (fun _ _ _ h => h) (Or.inl ⟨by rfl, ?yz0x20⟩) hHeld ?rz0x20
    case yz0x20 => (intro wS hSw; obtain ⟨hS1, hS2⟩ := hSw; go_simp; try (with_reducible rfl))
    try simp only [List.getElem_toArray, List.getElem_cons_zero, List.getElem_cons_succ, Act.put, List.setIfInBounds_toArray, List.set_cons_zero, List.set_cons_succ]
    refine wpAnyH_take (i := 21) (v := undef) rfl (by kernel_rfl) (by kernel_rfl) (by kernel_rfl) (fun _ _ _ h => h) (Or.inr ⟨by rfl, rfl⟩) hHeld ?rz0x21
    try simp only [List.getElem_toArray, List.getElem_cons_zero, List.getElem_cons_succ, Act.put, List.setIfInBounds_toArray, List.set_cons_zero, List.set_cons_succ]
    refine wpAnyH_take (i := 22) (v := undef) rfl (by kernel_rfl) (by kernel_rfl) (by kernel_rfl) (fun _ _ _ h => h) (Or.inr ⟨by rfl, rfl⟩) hHeld ?rz0x22
    try simp only [List.getElem_toArray, List.getElem_cons_zero, List.getElem_cons_succ, Act.put, List.setIfInBounds_toArray, List.set_cons_zero, List.set_cons_succ]
    refine wpAnyH_take (i := 23) (v := ?vz0x23) rfl (by kernel_rfl) (by kernel_rfl) (by kernel_rfl) (fun _ _ _ h => h) (Or.inl ⟨by rfl, ?yz0x23⟩) hHeld ?rz0x23
    case yz0x23 => (intro wS hSw; obtain ⟨hS1, hS2⟩ := hSw; go_simp; try (with_reducible rfl))
    try simp only [List.getElem_toArray, List.getElem_cons_zero, List.getElem_cons_succ, Act.put, List.setIfInBounds_toArray, List.set_cons_zero, List.set_cons_succ]
    refine wpAnyH_done (by kernel_rfl) ?_ _
    go_wp2_with fail
    go_ret3
    exact ⟨none, 0, rfl, Nat.le_refl _, by simp [maxLen], ⟨fun h => by simp at h, fun _ h => by cases h⟩, hHeld.2⟩
  have hs2 : ∀ w', Below w.heap.size w w' → Calls Tryz.prog 82 #[.slice A1 4 (c - 12), .int .u32 ((ofE (b.take 12)).toNat : Int)] w' (fun e w2 => e = .returned (.bool true) ∧ Below w'.heap.size w' w2) := fun w' hb => (hsum w' hb).mono fun e w2 h => ⟨h.1.trans (by rw [decide_eq_true hX]), h.2⟩
  have HS2 := Lib.hid hs2
  clear hs2
  by_cases h4z : x4 = 0
  rotate_left
  · have hpos := high_pos (l := (b.take (4 + 8)).drop 4) hlY.out (by rw [hY4]; exact h4z)
    have e : oneE b n = ([], 0, 70) := by
      have : takenE b n = ([], 70) := by rw [hT, if_pos (.inr (by rw [hhp]; exact fun h => by have h2 := h.2; have hp : 256 ^ 7 ≤ beN ((b.take 12).drop 4) := hpos; omega))]
      unfold oneE
      rw [this]
      rfl
    rw [e]
    have d4 : decide (0 < (x4.toNat : Int)) = true := by
      have : x4.toNat ≠ 0 := fun e => h4z (UInt8.toNat_inj.1 (by rw [e]; rfl))
      simp; omega
    have d4' : decide (0 < x4.toNat) = true := by
      have : x4.toNat ≠ 0 := fun e => h4z (UInt8.toNat_inj.1 (by rw [e]; rfl))
      simp; omega
    clear hpos h4z
    clear hsum hX hhp hT e hk hY4 hx4 hrX hlX hrY hlY hr h16' hl
    go_enter Tryz.func33, Tryz.ntmps33
    go_wp2_with fail
    refine HT4.out.mono ?_
    rintro e w1 ⟨rfl, rfl⟩
    go_wp2_with fail
    refine wp_region_held_drew (S := fun w' => w'.cell? ⟨ad.block, ad.off + 4, none⟩ = some (.int .u8 (x4.toNat : Int)) ∧ Below w.heap.size w w') (by kernel_rfl) ⟨a4, Below.drew (Below.refl _ _)⟩ (fun hHeld => ?_)
    refine wpAnyH_take (i := 0) (v := ?vz1x0) rfl (by kernel_rfl) (by kernel_rfl) (by kernel_rfl) (fun _ _ _ h => h) (Or.inl ⟨by rfl, ?yz1x0⟩) hHeld ?rz1x0
    case yz1x0 => (intro wS hSw; obtain ⟨hS1, hS2⟩ := hSw; go_simp; try (with_reducible rfl))
    try simp only [List.getElem_toArray, List.getElem_cons_zero, List.getElem_cons_succ, Act.put, List.setIfInBounds_toArray, List.set_cons_zero, List.set_cons_succ]
    refine wpAnyH_take (i := 1) (v := ?vz1x1) rfl (by kernel_rfl) (by kernel_rfl) (by kernel_rfl) (fun _ _ _ h => h) (Or.inl ⟨by rfl, ?yz1x1⟩) hHeld ?rz1x1
    case yz1x1 => (intro wS hSw; obtain ⟨hS1, hS2⟩ := hSw; go_simp; try (with_reducible rfl))
    try simp only [List.getElem_toArray, List.getElem_cons_zero, List.getElem_cons_succ, Act.put, List.setIfInBounds_toArray, List.set_cons_zero, List.set_cons_succ]
    refine wpAnyH_take (i := 2) (v := ?vz1x2) rfl (by kernel_rfl) (by kernel_rfl) (by kernel_rfl) (fun _ _ _ h => h) (Or.inl ⟨by rfl, ?yz1x2⟩) hHeld ?rz1x2
    case yz1x2 => (intro wS hSw; obtain ⟨hS1, hS2⟩ := hSw; go_simp; try (with_reducible rfl))
    try simp only [List.getElem_toArray, List.getElem_cons_zero, List.getElem_cons_succ, Act.put, List.setIfInBounds_toArray, List.set_cons_zero, List.set_cons_succ]
    refine wpAnyH_take (i := 3) (v := ?vz1x3) rfl (by kernel_rfl) (by kernel_rfl) (by kernel_rfl) (fun _ _ _ h => h) (Or.inl ⟨by rfl, ?yz1x3⟩) hHeld ?rz1x3
    case yz1x3 => (intro wS hSw; obtain ⟨hS1, hS2⟩ := hSw; go_simp; try (with_reducible rfl))
    try simp only [List.getElem_toArray, List.getElem_cons_zero, List.getElem_cons_succ, Act.put, List.setIfInBounds_toArray, List.set_cons_zero, List.set_cons_succ]
    refine wpAnyH_ready (rs := [4]) (by kernel_rfl) (by simp) (AllReadyH.cons rfl (fun K hK => ?_) AllReadyH.nil)
    go_simp
    go_at_call 31; refine (HOF.out _ hHeld.2).mono ?_
    rintro e w2 ⟨rfl, rfl⟩
    go_wp2_with fail
    refine hK.out _ _ hHeld (fun hHeld => ?_)
    clear hK K
    try simp only [List.getElem_toArray, List.getElem_cons_zero, List.getElem_cons_succ, Act.put, List.setIfInBounds_toArray, List.set_cons_zero, List.set_cons_succ]
    refine wpAnyH_ready (rs := [5]) (by kernel_rfl) (by simp) (AllReadyH.cons rfl (fun K hK => ?_) AllReadyH.nil)
    go_simp
    go_at_call 82; refine (HS2.out _ hHeld.2).mono ?_
    rintro e w3 ⟨rfl, hb3⟩
    have hH3 := And.intro ((hb3.cell (World.block_lt_of_cell? _ _ hHeld.1)).trans hHeld.1) (bl_trans hHeld.2 hb3)
    clear hHeld
    go_wp2_with fail
    refine hK.out _ _ hH3 (fun hHeld => ?_)
    clear hK K
    try simp only [List.getElem_toArray, List.getElem_cons_zero, List.getElem_cons_succ, Act.put, List.setIfInBounds_toArray, List.set_cons_zero, List.set_cons_succ]
    refine wpAnyH_take (i := 6) (v := ?vz1x6) rfl (by kernel_rfl) (by kernel_rfl) (by kernel_rfl) (fun _ _ _ h => h) (Or.inl ⟨by rfl, ?yz1x6⟩) hHeld ?rz1x6
    case yz1x6 => (intro wS hSw; obtain ⟨hS1, hS2⟩ := hSw; go_simp; try (with_reducible rfl))
    try simp only [List.getElem_toArray, List.getElem_cons_zero, List.getElem_cons_succ, Act.put, List.setIfInBounds_toArray, List.set_cons_zero, List.set_cons_succ]
    refine wpAnyH_take (i := 7) (v := ?vz1x7) rfl (by kernel_rfl) (by kernel_rfl) (by kernel_rfl) (fun _ _ _ h => h) (Or.inl ⟨by rfl, ?yz1x7⟩) hHeld ?rz1x7
    case yz1x7 => (intro wS hSw; obtain ⟨hS1, hS2⟩ := hSw; go_simp; try (with_reducible rfl))
    try simp only [List.getElem_toArray, List.getElem_cons_zero, List.getElem_cons_succ, Act.put, List.setIfInBounds_toArray, List.set_cons_zero, List.set_cons_succ]
    refine wpAnyH_take (i := 8) (v := ?vz1x8) rfl (by kernel_rfl) (by kernel_rfl) (by kernel_rfl) (fun _ _ _ h => h) (Or.inl ⟨by rfl, ?yz1x8⟩) hHeld ?rz1x8
    case yz1x8 => (intro wS hSw; obtain ⟨hS1, hS2⟩ := hSw; go_simp; try (with_reducible rfl))
    try simp only [List.getElem_toArray, List.getElem_cons_zero, List.getElem_cons_succ, Act.put, List.setIfInBounds_toArray, List.set_cons_zero, List.set_cons_succ]
    refine wpAnyH_take (i := 9) (v := ?vz1x9) rfl (by kernel_rfl) (by kernel_rfl) (by kernel_rfl) (fun _ _ _ h => h) (Or.inl ⟨by rfl, ?yz1x9⟩) hHeld ?rz1x9
    case yz1x9 => (intro wS hSw; obtain ⟨hS1, hS2⟩ := hSw; go_simp; try (with_reducible rfl))
    try simp only [List.getElem_toArray, List.getElem_cons_zero, List.getElem_cons_succ, Act.put, List.setIfInBounds_toArray, List.set_cons_zero, List.set_cons_succ]
    refine wpAnyH_take (i := 10) (v := ?vz1x10) rfl (by kernel_rfl) (by kernel_rfl) (by kernel_rfl) (fun _ _ _ h => h) (Or.inl ⟨by rfl, ?yz1x10⟩) hHeld ?rz1x10
    case yz1x10 => (intro wS hSw; obtain ⟨hS1, hS2⟩ := hSw; go_simp; try (with_reducible rfl))
    try simp only [List.getElem_toArray, List.getElem_cons_zero, List.getElem_cons_succ, Act.put, List.setIfInBounds_toArray, List.set_cons_zero, List.set_cons_succ]
    refine wpAnyH_take (i := 11) (v := ?vz1x11) rfl (by kernel_rfl) (by kernel_rfl) (by kernel_rfl) (fun _ _ _ h => h) (Or.inl ⟨by rfl, ?yz1x11⟩) hHeld ?rz1x11
    case yz1x11 => (intro wS hSw; obtain ⟨hS1, hS2⟩ := hSw; go_simp; try (with_reducible rfl))
    try simp only [List.getElem_toArray, List.getElem_cons_zero, List.getElem_cons_succ, Act.put, List.setIfInBounds_toArray, List.set_cons_zero, List.set_cons_succ]
    refine wpAnyH_take (i := 12) (v := ?vz1x12) rfl (by kernel_rfl) (by kernel_rfl) (by kernel_rfl) (fun _ _ _ h => h) (Or.inl ⟨by rfl, ?yz1x12⟩) hHeld ?rz1x12
    case yz1x12 => (intro wS hSw; obtain ⟨hS1, hS2⟩ := hSw; go_simp; try (with_reducible rfl))
    try simp only [List.getElem_toArray, List.getElem_cons_zero, List.getElem_cons_succ, Act.put, List.setIfInBounds_toArray, List.set_cons_zero, List.set_cons_succ]
    refine wpAnyH_take (i := 13) (v := ?vz1x13) rfl (by kernel_rfl) (by kernel_rfl) (by kernel_rfl) (fun _ _ _ h => h) (Or.inl ⟨by rfl, ?yz1x13⟩) hHeld ?rz1x13
    case yz1x13 => (intro wS hSw; obtain ⟨hS1, hS2⟩ := hSw; go_simp; try (with_reducible rfl))
    try simp only [List.getElem_toArray, List.getElem_cons_zero, List.getElem_cons_succ, Act.put, List.setIfInBounds_toArray, List.set_cons_zero, List.set_cons_succ]
    refine wpAnyH_take (i := 14) (v := undef) rfl (by kernel_rfl) (by kernel_rfl) (by kernel_rfl) (fun _ _ _ h => h) (Or.inr ⟨by rfl, rfl⟩) hHeld ?rz1x14
    try simp only [List.getElem_toArray, List.getElem_cons_zero, List.getElem_cons_succ, Act.put, List.setIfInBounds_toArray, List.set_cons_zero, List.set_cons_succ]
    refine wpAnyH_take (i := 15) (v := undef) rfl (by kernel_rfl) (by kernel_rfl) (by kernel_rfl) (fun _ _ _ h => h) (Or.inr ⟨by rfl, rfl⟩) hHeld ?rz1x15
    try simp only [List.getElem_toArray, List.getElem_cons_zero, List.getElem_cons_succ, Act.put, List.setIfInBounds_toArray, List.set_cons_zero, List.set_cons_succ]
    refine wpAnyH_take (i := 16) (v := undef) rfl (by kernel_rfl) (by kernel_rfl) (by kernel_rfl) (fun _ _ _ h => h) (Or.inr ⟨by rfl, rfl⟩) hHeld ?rz1x16
    try simp only [List.getElem_toArray, List.getElem_cons_zero, List.getElem_cons_succ, Act.put, List.setIfInBounds_toArray, List.set_cons_zero, List.set_cons_succ]
    refine wpAnyH_take (i := 17) (v := undef) rfl (by kernel_rfl) (by kernel_rfl) (by kernel_rfl) (fun _ _ _ h => h) (Or.inr ⟨by rfl, rfl⟩) hHeld ?rz1x17
    try simp only [List.getElem_toArray, List.getElem_cons_zero, List.getElem_cons_succ, Act.put, List.setIfInBounds_toArray, List.set_cons_zero, List.set_cons_succ]
    refine wpAnyH_take (i := 18) (v := undef) rfl (by kernel_rfl) (by kernel_rfl) (by kernel_rfl) (fun _ _ _ h => h) (Or.inr ⟨by rfl, rfl⟩) hHeld ?rz1x18
    try simp only [List.getElem_toArray, List.getElem_cons_zero, List.getElem_cons_succ, Act.put, List.setIfInBounds_toArray, List.set_cons_zero, List.set_cons_succ]
    refine wpAnyH_take (i := 19) (v := ?vz1x19) rfl (by kernel_rfl) (by kernel_rfl) (by kernel_rfl) (fun _ _ _ h => h) (Or.inl ⟨by rfl, ?yz1x19⟩) hHeld ?rz1x19
    case yz1x19 => (intro wS hSw; obtain ⟨hS1, hS2⟩ := hSw; go_simp; try (with_reducible rfl))
    try simp only [List.getElem_toArray, List.getElem_cons_zero, List.getElem_cons_succ, Act.put, List.setIfInBounds_toArray, List.set_cons_zero, List.set_cons_succ]
    refine wpAnyH_take (i := 20) (v := ?vz1x20) rfl (by kernel_rfl) (by kernel_rfl) (by kernel_rfl) (fun _ _ _ h => h) (Or.inl ⟨by rfl, ?yz1x20⟩) hHeld ?rz1x20
    case yz1x20 => (intro wS hSw; obtain ⟨hS1, hS2⟩ := hSw; go_simp; try (with_reducible rfl))
    try simp only [List.getElem_toArray, List.getElem_cons_zero, List.getElem_cons_succ, Act.put, List.setIfInBounds_toArray, List.set_cons_zero, List.set_cons_succ]
    refine wpAnyH_take (i := 21) (v := undef) rfl (by kernel_rfl) (by kernel_rfl) (by kernel_rfl) (fun _ _ _ h => h) (Or.inr ⟨by rfl, rfl⟩) hHeld ?rz1x21
    try simp only [List.getElem_toArray, List.getElem_cons_zero, List.getElem_cons_succ, Act.put, List.setIfInBounds_toArray, List.set_cons_zero, List.set_cons_succ]
    refine wpAnyH_take (i := 22) (v := undef) rfl (by kernel_rfl) (by kernel_rfl) (by kernel_rfl) (fun _ _ _ h => h) (Or.inr ⟨by rfl, rfl⟩) hHeld ?rz1x22
    try simp only [List.getElem_toArray, List.getElem_cons_zero, List.getElem_cons_succ, Act.put, List.setIfInBounds_toArray, List.set_cons_zero, List.set_cons_succ]
    refine wpAnyH_take (i := 23) (v := ?vz1x23) rfl (by kernel_rfl) (by kernel_rfl) (by kernel_rfl) (fun _ _ _ h => h) (Or.inl ⟨by rfl, ?yz1x23⟩) hHeld ?rz1x23
    case yz1x23 => (intro wS hSw; obtain ⟨hS1, hS2⟩ := hSw; go_simp; try (with_reducible rfl))
    try simp only [List.getElem_toArray, List.getElem_cons_zero, List.getElem_cons_succ, Act.put, List.setIfInBounds_toArray, List.set_cons_zero, List.set_cons_succ]
    refine wpAnyH_done (by kernel_rfl) ?_ _
    go_wp2_with fail
    go_ret3
    exact ⟨none, 0, rfl, Nat.le_refl _, by simp [maxLen], ⟨fun h => by simp at h, fun _ h => by cases h⟩, hHeld.2⟩
  have hlow : beN ((b.take (4 + 8)).drop 4) < 256 ^ 7 := high_zero (l := (b.take (4 + 8)).drop 4) hlY.out (by rw [hY4]; exact h4z)
  obtain ⟨y, hy⟩ : ∃ y, y = beN ((b.take (4 + 8)).drop 4) := ⟨_, rfl⟩
  have hty := fun w' (hb : Below w.heap.size w w') => told_ref A2 8 (c - 4) ((b.take (4 + 8)).drop 4) w' hlY.out (hrY.below hb) (by omega) (by omega)
  rw [← hy] at hty hlow
  have HTY := Lib.hid hty
  clear hty
  have d4 : decide (0 < (x4.toNat : Int)) = false := by rw [h4z]; rfl
  have d4' : decide (0 < x4.toNat) = false := by rw [h4z]; rfl
  clear h4z
  by_cases hn2 : y = n
  rotate_left
  · have hn3 : ((y : Int) != (n : Int)) = true := by simp; omega
    have hn3' : (y != n) = true := by simp; omega
    have e : oneE b n = ([], 0, 70) := by
      have : takenE b n = ([], 70) := by rw [hT, if_pos (.inr (by rw [hhp]; exact fun h => hn2 (by rw [hy]; exact h.2)))]
      unfold oneE
      rw [this]
      rfl
    rw [e]
    clear hy hlow hn2
    clear hsum hX hhp hT e hk hY4 hx4 hrX hlX hrY hlY hr h16' hl
    go_enter Tryz.func33, Tryz.ntmps33
    go_wp2_with fail
    refine HT4.out.mono ?_
    rintro e w1 ⟨rfl, rfl⟩
    go_wp2_with fail
    refine wp_region_held_drew (S := fun w' => w'.cell? ⟨ad.block, ad.off + 4, none⟩ = some (.int .u8 (x4.toNat : Int)) ∧ Below w.heap.size w w') (by kernel_rfl) ⟨a4, Below.drew (Below.refl _ _)⟩ (fun hHeld => ?_)
    refine wpAnyH_take (i := 0) (v := ?vz2x0) rfl (by kernel_rfl) (by kernel_rfl) (by kernel_rfl) (fun _ _ _ h => h) (Or.inl ⟨by rfl, ?yz2x0⟩) hHeld ?rz2x0
    case yz2x0 => (intro wS hSw; obtain ⟨hS1, hS2⟩ := hSw; go_simp; try (with_reducible rfl))
    try simp only [List.getElem_toArray, List.getElem_cons_zero, List.getElem_cons_succ, Act.put, List.setIfInBounds_toArray, List.set_cons_zero, List.set_cons_succ]
    refine wpAnyH_take (i := 1) (v := ?vz2x1) rfl (by kernel_rfl) (by kernel_rfl) (by kernel_rfl) (fun _ _ _ h => h) (Or.inl ⟨by rfl, ?yz2x1⟩) hHeld ?rz2x1
    case yz2x1 => (intro wS hSw; obtain ⟨hS1, hS2⟩ := hSw; go_simp; try (with_reducible rfl))
    try simp only [List.getElem_toArray, List.getElem_cons_zero, List.getElem_cons_succ, Act.put, List.setIfInBounds_toArray, List.set_cons_zero, List.set_cons_succ]
    refine wpAnyH_take (i := 2) (v := ?vz2x2) rfl (by kernel_rfl) (by kernel_rfl) (by kernel_rfl) (fun _ _ _ h => h) (Or.inl ⟨by rfl, ?yz2x2⟩) hHeld ?rz2x2
    case yz2x2 => (intro wS hSw; obtain ⟨hS1, hS2⟩ := hSw; go_simp; try (with_reducible rfl))
    try simp only [List.getElem_toArray, List.getElem_cons_zero, List.getElem_cons_succ, Act.put, List.setIfInBounds_toArray, List.set_cons_zero, List.set_cons_succ]
    refine wpAnyH_take (i := 3) (v := ?vz2x3) rfl (by kernel_rfl) (by kernel_rfl) (by kernel_rfl) (fun _ _ _ h => h) (Or.inl ⟨by rfl, ?yz2x3⟩) hHeld ?rz2x3
    case yz2x3 => (intro wS hSw; obtain ⟨hS1, hS2⟩ := hSw; go_simp; try (with_reducible rfl))
    try simp only [List.getElem_toArray, List.getElem_cons_zero, List.getElem_cons_succ, Act.put, List.setIfInBounds_toArray, List.set_cons_zero, List.set_cons_succ]
    refine wpAnyH_ready (rs := [4]) (by kernel_rfl) (by simp) (AllReadyH.cons rfl (fun K hK => ?_) AllReadyH.nil)
    go_simp
    go_at_call 31; refine (HOF.out _ hHeld.2).mono ?_
    rintro e w2 ⟨rfl, rfl⟩
    go_wp2_with fail
    refine hK.out _ _ hHeld (fun hHeld => ?_)
    clear hK K
    try simp only [List.getElem_toArray, List.getElem_cons_zero, List.getElem_cons_succ, Act.put, List.setIfInBounds_toArray, List.set_cons_zero, List.set_cons_succ]
    refine wpAnyH_ready (rs := [5]) (by kernel_rfl) (by simp) (AllReadyH.cons rfl (fun K hK => ?_) AllReadyH.nil)
    go_simp
    go_at_call 82; refine (HS2.out _ hHeld.2).mono ?_
    rintro e w3 ⟨rfl, hb3⟩
    have hH3 := And.intro ((hb3.cell (World.block_lt_of_cell? _ _ hHeld.1)).trans hHeld.1) (bl_trans hHeld.2 hb3)
    clear hHeld
    go_wp2_with fail
    refine hK.out _ _ hH3 (fun hHeld => ?_)
    clear hK K
    try simp only [List.getElem_toArray, List.getElem_cons_zero, List.getElem_cons_succ, Act.put, List.setIfInBounds_toArray, List.set_cons_zero, List.set_cons_succ]
    refine wpAnyH_take (i := 6) (v := ?vz2x6) rfl (by kernel_rfl) (by kernel_rfl) (by kernel_rfl) (fun _ _ _ h => h) (Or.inl ⟨by rfl, ?yz2x6⟩) hHeld ?rz2x6
    case yz2x6 => (intro wS hSw; obtain ⟨hS1, hS2⟩ := hSw; go_simp; try (with_reducible rfl))
    try simp only [List.getElem_toArray, List.getElem_cons_zero, List.getElem_cons_succ, Act.put, List.setIfInBounds_toArray, List.set_cons_zero, List.set_cons_succ]
    refine wpAnyH_take (i := 7) (v := ?vz2x7) rfl (by kernel_rfl) (by kernel_rfl) (by kernel_rfl) (fun _ _ _ h => h) (Or.inl ⟨by rfl, ?yz2x7⟩) hHeld ?rz2x7
    case yz2x7 => (intro wS hSw; obtain ⟨hS1, hS2⟩ := hSw; go_simp; try (with_reducible rfl))
    try simp only [List.getElem_toArray, List.getElem_cons_zero, List.getElem_cons_succ, Act.put, List.setIfInBounds_toArray, List.set_cons_zero, List.set_cons_succ]
    refine wpAnyH_take (i := 8) (v := ?vz2x8) rfl (by kernel_rfl) (by kernel_rfl) (by kernel_rfl) (fun _ _ _ h => h) (Or.inl ⟨by rfl, ?yz2x8⟩) hHeld ?rz2x8
    case yz2x8 => (intro wS hSw; obtain ⟨hS1, hS2⟩ := hSw; go_simp; try (with_reducible rfl))
    try simp only [List.getElem_toArray, List.getElem_cons_zero, List.getElem_cons_succ, Act.put, List.setIfInBounds_toArray, List.set_cons_zero, List.set_cons_succ]
    refine wpAnyH_take (i := 9) (v := ?vz2x9) rfl (by kernel_rfl) (by kernel_rfl) (by kernel_rfl) (fun _ _ _ h => h) (Or.inl ⟨by rfl, ?yz2x9⟩) hHeld ?rz2x9
    case yz2x9 => (intro wS hSw; obtain ⟨hS1, hS2⟩ := hSw; go_simp; try (with_reducible rfl))
    try simp only [List.getElem_toArray, List.getElem_cons_zero, List.getElem_cons_succ, Act.put, List.setIfInBounds_toArray, List.set_cons_zero, List.set_cons_succ]
    refine wpAnyH_take (i := 10) (v := ?vz2x10) rfl (by kernel_rfl) (by kernel_rfl) (by kernel_rfl) (fun _ _ _ h => h) (Or.inl ⟨by rfl, ?yz2x10⟩) hHeld ?rz2x10
    case yz2x10 => (intro wS hSw; obtain ⟨hS1, hS2⟩ := hSw; go_simp; try (with_reducible rfl))
    try simp only [List.getElem_toArray, List.getElem_cons_zero, List.getElem_cons_succ, Act.put, List.setIfInBounds_toArray, List.set_cons_zero, List.set_cons_succ]
    refine wpAnyH_take (i := 11) (v := ?vz2x11) rfl (by kernel_rfl) (by kernel_rfl) (by kernel_rfl) (fun _ _ _ h => h) (Or.inl ⟨by rfl, ?yz2x11⟩) hHeld ?rz2x11
    case yz2x11 => (intro wS hSw; obtain ⟨hS1, hS2⟩ := hSw; go_simp; try (with_reducible rfl))
    try simp only [List.getElem_toArray, List.getElem_cons_zero, List.getElem_cons_succ, Act.put, List.setIfInBounds_toArray, List.set_cons_zero, List.set_cons_succ]
    refine wpAnyH_take (i := 12) (v := ?vz2x12) rfl (by kernel_rfl) (by kernel_rfl) (by kernel_rfl) (fun _ _ _ h => h) (Or.inl ⟨by rfl, ?yz2x12⟩) hHeld ?rz2x12
    case yz2x12 => (intro wS hSw; obtain ⟨hS1, hS2⟩ := hSw; go_simp; try (with_reducible rfl))
    try simp only [List.getElem_toArray, List.getElem_cons_zero, List.getElem_cons_succ, Act.put, List.setIfInBounds_toArray, List.set_cons_zero, List.set_cons_succ]
    refine wpAnyH_take (i := 13) (v := ?vz2x13) rfl (by kernel_rfl) (by kernel_rfl) (by kernel_rfl) (fun _ _ _ h => h) (Or.inl ⟨by rfl, ?yz2x13⟩) hHeld ?rz2x13
    case yz2x13 => (intro wS hSw; obtain ⟨hS1, hS2⟩ := hSw; go_simp; try (with_reducible rfl))
    try simp only [List.getElem_toArray, List.getElem_cons_zero, List.getElem_cons_succ, Act.put, List.setIfInBounds_toArray, List.set_cons_zero, List.set_cons_succ]
    refine wpAnyH_take (i := 14) (v := ?vz2x14) rfl (by kernel_rfl) (by kernel_rfl) (by kernel_rfl) (fun _ _ _ h => h) (Or.inl ⟨by rfl, ?yz2x14⟩) hHeld ?rz2x14
    case yz2x14 => (intro wS hSw; obtain ⟨hS1, hS2⟩ := hSw; go_simp; try (with_reducible rfl))
    try simp only [List.getElem_toArray, List.getElem_cons_zero, List.getElem_cons_succ, Act.put, List.setIfInBounds_toArray, List.set_cons_zero, List.set_cons_succ]
    refine wpAnyH_take (i := 15) (v := ?vz2x15) rfl (by kernel_rfl) (by kernel_rfl) (by kernel_rfl) (fun _ _ _ h => h) (Or.inl ⟨by rfl, ?yz2x15⟩) hHeld ?rz2x15
    case yz2x15 => (intro wS hSw; obtain ⟨hS1, hS2⟩ := hSw; go_simp; try (with_reducible rfl))
    try simp only [List.getElem_toArray, List.getElem_cons_zero, List.getElem_cons_succ, Act.put, List.setIfInBounds_toArray, List.set_cons_zero, List.set_cons_succ]
    refine wpAnyH_take (i := 17) (v := ?vz2x17) rfl (by kernel_rfl) (by kernel_rfl) (by kernel_rfl) (fun _ _ _ h => h) (Or.inl ⟨by rfl, ?yz2x17⟩) hHeld ?rz2x17
    case yz2x17 => (intro wS hSw; obtain ⟨hS1, hS2⟩ := hSw; go_simp; try (with_reducible rfl))
    try simp only [List.getElem_toArray, List.getElem_cons_zero, List.getElem_cons_succ, Act.put, List.setIfInBounds_toArray, List.set_cons_zero, List.set_cons_succ]
    refine wpAnyH_ready (rs := [16]) (by kernel_rfl) (by simp) (AllReadyH.cons rfl (fun K hK => ?_) AllReadyH.nil)
    go_simp
    go_at_call 81; refine (HTY.out _ hHeld.2).mono ?_
    rintro e w4 ⟨rfl, rfl⟩
    go_wp2_with fail
    refine hK.out _ _ hHeld (fun hHeld => ?_)
    clear hK K
    try simp only [List.getElem_toArray, List.getElem_cons_zero, List.getElem_cons_succ, Act.put, List.setIfInBounds_toArray, List.set_cons_zero, List.set_cons_succ]
    refine wpAnyH_take (i := 18) (v := ?vz2x18) rfl (by kernel_rfl) (by kernel_rfl) (by kernel_rfl) (fun _ _ _ h => h) (Or.inl ⟨by rfl, ?yz2x18⟩) hHeld ?rz2x18
    case yz2x18 => (intro wS hSw; obtain ⟨hS1, hS2⟩ := hSw; go_simp; try (with_reducible rfl))
    try simp only [List.getElem_toArray, List.getElem_cons_zero, List.getElem_cons_succ, Act.put, List.setIfInBounds_toArray, List.set_cons_zero, List.set_cons_succ]
    refine wpAnyH_take (i := 19) (v := ?vz2x19) rfl (by kernel_rfl) (by kernel_rfl) (by kernel_rfl) (fun _ _ _ h => h) (Or.inl ⟨by rfl, ?yz2x19⟩) hHeld ?rz2x19
    case yz2x19 => (intro wS hSw; obtain ⟨hS1, hS2⟩ := hSw; go_simp; try (with_reducible rfl))
    try simp only [List.getElem_toArray, List.getElem_cons_zero, List.getElem_cons_succ, Act.put, List.setIfInBounds_toArray, List.set_cons_zero, List.set_cons_succ]
    refine wpAnyH_take (i := 20) (v := ?vz2x20) rfl (by kernel_rfl) (by kernel_rfl) (by kernel_rfl) (fun _ _ _ h => h) (Or.inl ⟨by rfl, ?yz2x20⟩) hHeld ?rz2x20
    case yz2x20 => (intro wS hSw; obtain ⟨hS1, hS2⟩ := hSw; go_simp; try (with_reducible rfl))
    try simp only [List.getElem_toArray, List.getElem_cons_zero, List.getElem_cons_succ, Act.put, List.setIfInBounds_toArray, List.set_cons_zero, List.set_cons_succ]
    refine wpAnyH_take (i := 21) (v := undef) rfl (by kernel_rfl) (by kernel_rfl) (by kernel_rfl) (fun _ _ _ h => h) (Or.inr ⟨by rfl, rfl⟩) hHeld ?rz2x21
    try simp only [List.getElem_toArray, List.getElem_cons_zero, List.getElem_cons_succ, Act.put, List.setIfInBounds_toArray, List.set_cons_zero, List.set_cons_succ]
    refine wpAnyH_take (i := 22) (v := undef) rfl (by kernel_rfl) (by kernel_rfl) (by kernel_rfl) (fun _ _ _ h => h) (Or.inr ⟨by rfl, rfl⟩) hHeld ?rz2x22
    try simp only [List.getElem_toArray, List.getElem_cons_zero, List.getElem_cons_succ, Act.put, List.setIfInBounds_toArray, List.set_cons_zero, List.set_cons_succ]
    refine wpAnyH_take (i := 23) (v := ?vz2x23) rfl (by kernel_rfl) (by kernel_rfl) (by kernel_rfl) (fun _ _ _ h => h) (Or.inl ⟨by rfl, ?yz2x23⟩) hHeld ?rz2x23
    case yz2x23 => (intro wS hSw; obtain ⟨hS1, hS2⟩ := hSw; go_simp; try (with_reducible rfl))
    try simp only [List.getElem_toArray, List.getElem_cons_zero, List.getElem_cons_succ, Act.put, List.setIfInBounds_toArray, List.set_cons_zero, List.set_cons_succ]
    refine wpAnyH_done (by kernel_rfl) ?_ _
    go_wp2_with fail
    go_ret3
    exact ⟨none, 0, rfl, Nat.le_refl _, by simp [maxLen], ⟨fun h => by simp at h, fun _ h => by cases h⟩, hHeld.2⟩
  have hhd : hdE n k <+: b := hhp.2 ⟨hX, by rw [← hn2, hy]⟩
  subst hn2
  have hn3 : ((y : Int) != (y : Int)) = false := by simp
  have hn3' : (y != y) = false := by simp
  by_cases hk6 : 262144 < k
  · have d6 : decide (262144 < (k : Int)) = true := by simp; omega
    have d6' : decide (262144 < k) = true := by simp; omega
    have e : oneE b y = ([], 0, 70) := by
      have : takenE b y = ([], 70) := by rw [hT, if_pos (.inl hk6)]
      unfold oneE
      rw [this]
      rfl
    rw [e]
    clear hy hlow hhd hk6
    clear hsum hX hhp hT e hk hY4 hx4 hrX hlX hrY hlY hr h16' hl
    go_enter Tryz.func33, Tryz.ntmps33
    go_wp2_with fail
    refine HT4.out.mono ?_
    rintro e w1 ⟨rfl, rfl⟩
    go_wp2_with fail
    refine wp_region_held_drew (S := fun w' => w'.cell? ⟨ad.block, ad.off + 4, none⟩ = some (.int .u8 (x4.toNat : Int)) ∧ Below w.heap.size w w') (by kernel_rfl) ⟨a4, Below.drew (Below.refl _ _)⟩ (fun hHeld => ?_)
    refine wpAnyH_take (i := 0) (v := ?vz3x0) rfl (by kernel_rfl) (by kernel_rfl) (by kernel_rfl) (fun _ _ _ h => h) (Or.inl ⟨by rfl, ?yz3x0⟩) hHeld ?rz3x0
    case yz3x0 => (intro wS hSw; obtain ⟨hS1, hS2⟩ := hSw; go_simp; try (with_reducible rfl))
    try simp only [List.getElem_toArray, List.getElem_cons_zero, List.getElem_cons_succ, Act.put, List.setIfInBounds_toArray, List.set_cons_zero, List.set_cons_succ]
    refine wpAnyH_take (i := 1) (v := ?vz3x1) rfl (by kernel_rfl) (by kernel_rfl) (by kernel_rfl) (fun _ _ _ h => h) (Or.inl ⟨by rfl, ?yz3x1⟩) hHeld ?rz3x1
    case yz3x1 => (intro wS hSw; obtain ⟨hS1, hS2⟩ := hSw; go_simp; try (with_reducible rfl))
    try simp only [List.getElem_toArray, List.getElem_cons_zero, List.getElem_cons_succ, Act.put, List.setIfInBounds_toArray, List.set_cons_zero, List.set_cons_succ]
    refine wpAnyH_take (i := 2) (v := ?vz3x2) rfl (by kernel_rfl) (by kernel_rfl) (by kernel_rfl) (fun _ _ _ h => h) (Or.inl ⟨by rfl, ?yz3x2⟩) hHeld ?rz3x2
    case yz3x2 => (intro wS hSw; obtain ⟨hS1, hS2⟩ := hSw; go_simp; try (with_reducible rfl))
    try simp only [List.getElem_toArray, List.getElem_cons_zero, List.getElem_cons_succ, Act.put, List.setIfInBounds_toArray, List.set_cons_zero, List.set_cons_succ]
    refine wpAnyH_take (i := 3) (v := ?vz3x3) rfl (by kernel_rfl) (by kernel_rfl) (by kernel_rfl) (fun _ _ _ h => h) (Or.inl ⟨by rfl, ?yz3x3⟩) hHeld ?rz3x3
    case yz3x3 => (intro wS hSw; obtain ⟨hS1, hS2⟩ := hSw; go_simp; try (with_reducible rfl))
    try simp only [List.getElem_toArray, List.getElem_cons_zero, List.getElem_cons_succ, Act.put, List.setIfInBounds_toArray, List.set_cons_zero, List.set_cons_succ]
    refine wpAnyH_ready (rs := [4]) (by kernel_rfl) (by simp) (AllReadyH.cons rfl (fun K hK => ?_) AllReadyH.nil)
    go_simp
    go_at_call 31; refine (HOF.out _ hHeld.2).mono ?_
    rintro e w2 ⟨rfl, rfl⟩
    go_wp2_with fail
    refine hK.out _ _ hHeld (fun hHeld => ?_)
    clear hK K
    try simp only [List.getElem_toArray, List.getElem_cons_zero, List.getElem_cons_succ, Act.put, List.setIfInBounds_toArray, List.set_cons_zero, List.set_cons_succ]
    refine wpAnyH_ready (rs := [5]) (by kernel_rfl) (by simp) (AllReadyH.cons rfl (fun K hK => ?_) AllReadyH.nil)
    go_simp
    go_at_call 82; refine (HS2.out _ hHeld.2).mono ?_
    rintro e w3 ⟨rfl, hb3⟩
    have hH3 := And.intro ((hb3.cell (World.block_lt_of_cell? _ _ hHeld.1)).trans hHeld.1) (bl_trans hHeld.2 hb3)
    clear hHeld
    go_wp2_with fail
    refine hK.out _ _ hH3 (fun hHeld => ?_)
    clear hK K
    try simp only [List.getElem_toArray, List.getElem_cons_zero, List.getElem_cons_succ, Act.put, List.setIfInBounds_toArray, List.set_cons_zero, List.set_cons_succ]
    refine wpAnyH_take (i := 6) (v := ?vz3x6) rfl (by kernel_rfl) (by kernel_rfl) (by kernel_rfl) (fun _ _ _ h => h) (Or.inl ⟨by rfl, ?yz3x6⟩) hHeld ?rz3x6
    case yz3x6 => (intro wS hSw; obtain ⟨hS1, hS2⟩ := hSw; go_simp; try (with_reducible rfl))
    try simp only [List.getElem_toArray, List.getElem_cons_zero, List.getElem_cons_succ, Act.put, List.setIfInBounds_toArray, List.set_cons_zero, List.set_cons_succ]
    refine wpAnyH_take (i := 7) (v := ?vz3x7) rfl (by kernel_rfl) (by kernel_rfl) (by kernel_rfl) (fun _ _ _ h => h) (Or.inl ⟨by rfl, ?yz3x7⟩) hHeld ?rz3x7
    case yz3x7 => (intro wS hSw; obtain ⟨hS1, hS2⟩ := hSw; go_simp; try (with_reducible rfl))
    try simp only [List.getElem_toArray, List.getElem_cons_zero, List.getElem_cons_succ, Act.put, List.setIfInBounds_toArray, List.set_cons_zero, List.set_cons_succ]
    refine wpAnyH_take (i := 8) (v := ?vz3x8) rfl (by kernel_rfl) (by kernel_rfl) (by kernel_rfl) (fun _ _ _ h => h) (Or.inl ⟨by rfl, ?yz3x8⟩) hHeld ?rz3x8
    case yz3x8 => (intro wS hSw; obtain ⟨hS1, hS2⟩ := hSw; go_simp; try (with_reducible rfl))
    try simp only [List.getElem_toArray, List.getElem_cons_zero, List.getElem_cons_succ, Act.put, List.setIfInBounds_toArray, List.set_cons_zero, List.set_cons_succ]
    refine wpAnyH_take (i := 9) (v := ?vz3x9) rfl (by kernel_rfl) (by kernel_rfl) (by kernel_rfl) (fun _ _ _ h => h) (Or.inl ⟨by rfl, ?yz3x9⟩) hHeld ?rz3x9
    case yz3x9 => (intro wS hSw; obtain ⟨hS1, hS2⟩ := hSw; go_simp; try (with_reducible rfl))
    try simp only [List.getElem_toArray, List.getElem_cons_zero, List.getElem_cons_succ, Act.put, List.setIfInBounds_toArray, List.set_cons_zero, List.set_cons_succ]
    refine wpAnyH_take (i := 10) (v := ?vz3x10) rfl (by kernel_rfl) (by kernel_rfl) (by kernel_rfl) (fun _ _ _ h => h) (Or.inl ⟨by rfl, ?yz3x10⟩) hHeld ?rz3x10
    case yz3x10 => (intro wS hSw; obtain ⟨hS1, hS2⟩ := hSw; go_simp; try (with_reducible rfl))
    try simp only [List.getElem_toArray, List.getElem_cons_zero, List.getElem_cons_succ, Act.put, List.setIfInBounds_toArray, List.set_cons_zero, List.set_cons_succ]
    refine wpAnyH_take (i := 11) (v := ?vz3x11) rfl (by kernel_rfl) (by kernel_rfl) (by kernel_rfl) (fun _ _ _ h => h) (Or.inl ⟨by rfl, ?yz3x11⟩) hHeld ?rz3x11
    case yz3x11 => (intro wS hSw; obtain ⟨hS1, hS2⟩ := hSw; go_simp; try (with_reducible rfl))
    try simp only [List.getElem_toArray, List.getElem_cons_zero, List.getElem_cons_succ, Act.put, List.setIfInBounds_toArray, List.set_cons_zero, List.set_cons_succ]
    refine wpAnyH_take (i := 12) (v := ?vz3x12) rfl (by kernel_rfl) (by kernel_rfl) (by kernel_rfl) (fun _ _ _ h => h) (Or.inl ⟨by rfl, ?yz3x12⟩) hHeld ?rz3x12
    case yz3x12 => (intro wS hSw; obtain ⟨hS1, hS2⟩ := hSw; go_simp; try (with_reducible rfl))
    try simp only [List.getElem_toArray, List.getElem_cons_zero, List.getElem_cons_succ, Act.put, List.setIfInBounds_toArray, List.set_cons_zero, List.set_cons_succ]
    refine wpAnyH_take (i := 13) (v := ?vz3x13) rfl (by kernel_rfl) (by kernel_rfl) (by kernel_rfl) (fun _ _ _ h => h) (Or.inl ⟨by rfl, ?yz3x13⟩) hHeld ?rz3x13
    case yz3x13 => (intro wS hSw; obtain ⟨hS1, hS2⟩ := hSw; go_simp; try (with_reducible rfl))
    try simp only [List.getElem_toArray, List.getElem_cons_zero, List.getElem_cons_succ, Act.put, List.setIfInBounds_toArray, List.set_cons_zero, List.set_cons_succ]
    refine wpAnyH_take (i := 14) (v := ?vz3x14) rfl (by kernel_rfl) (by kernel_rfl) (by kernel_rfl) (fun _ _ _ h => h) (Or.inl ⟨by rfl, ?yz3x14⟩) hHeld ?rz3x14
    case yz3x14 => (intro wS hSw; obtain ⟨hS1, hS2⟩ := hSw; go_simp; try (with_reducible rfl))
    try simp only [List.getElem_toArray, List.getElem_cons_zero, List.getElem_cons_succ, Act.put, List.setIfInBounds_toArray, List.set_cons_zero, List.set_cons_succ]
    refine wpAnyH_take (i := 15) (v := ?vz3x15) rfl (by kernel_rfl) (by kernel_rfl) (by kernel_rfl) (fun _ _ _ h => h) (Or.inl ⟨by rfl, ?yz3x15⟩) hHeld ?rz3x15
    case yz3x15 => (intro wS hSw; obtain ⟨hS1, hS2⟩ := hSw; go_simp; try (with_reducible rfl))
    try simp only [List.getElem_toArray, List.getElem_cons_zero, List.getElem_cons_succ, Act.put, List.setIfInBounds_toArray, List.set_cons_zero, List.set_cons_succ]
    refine wpAnyH_take (i := 17) (v := ?vz3x17) rfl (by kernel_rfl) (by kernel_rfl) (by kernel_rfl) (fun _ _ _ h => h) (Or.inl ⟨by rfl, ?yz3x17⟩) hHeld ?rz3x17
    case yz3x17 => (intro wS hSw; obtain ⟨hS1, hS2⟩ := hSw; go_simp; try (with_reducible rfl))
    try simp only [List.getElem_toArray, List.getElem_cons_zero, List.getElem_cons_succ, Act.put, List.setIfInBounds_toArray, List.set_cons_zero, List.set_cons_succ]
    refine wpAnyH_ready (rs := [16]) (by kernel_rfl) (by simp) (AllReadyH.cons rfl (fun K hK => ?_) AllReadyH.nil)
    go_simp
    go_at_call 81; refine (HTY.out _ hHeld.2).mono ?_
    rintro e w4 ⟨rfl, rfl⟩
    go_wp2_with fail
    refine hK.out _ _ hHeld (fun hHeld => ?_)
    clear hK K
    try simp only [List.getElem_toArray, List.getElem_cons_zero, List.getElem_cons_succ, Act.put, List.setIfInBounds_toArray, List.set_cons_zero, List.set_cons_succ]
    refine wpAnyH_take (i := 18) (v := ?vz3x18) rfl (by kernel_rfl) (by kernel_rfl) (by kernel_rfl) (fun _ _ _ h => h) (Or.inl ⟨by rfl, ?yz3x18⟩) hHeld ?rz3x18
    case yz3x18 => (intro wS hSw; obtain ⟨hS1, hS2⟩ := hSw; go_simp; try (with_reducible rfl))
    try simp only [List.getElem_toArray, List.getElem_cons_zero, List.getElem_cons_succ, Act.put, List.setIfInBounds_toArray, List.set_cons_zero, List.set_cons_succ]
    refine wpAnyH_take (i := 19) (v := ?vz3x19) rfl (by kernel_rfl) (by kernel_rfl) (by kernel_rfl) (fun _ _ _ h => h) (Or.inl ⟨by rfl, ?yz3x19⟩) hHeld ?rz3x19
    case yz3x19 => (intro wS hSw; obtain ⟨hS1, hS2⟩ := hSw; go_simp; try (with_reducible rfl))
    try simp only [List.getElem_toArray, List.getElem_cons_zero, List.getElem_cons_succ, Act.put, List.setIfInBounds_toArray, List.set_cons_zero, List.set_cons_succ]
    refine wpAnyH_take (i := 20) (v := ?vz3x20) rfl (by kernel_rfl) (by kernel_rfl) (by kernel_rfl) (fun _ _ _ h => h) (Or.inl ⟨by rfl, ?yz3x20⟩) hHeld ?rz3x20
    case yz3x20 => (intro wS hSw; obtain ⟨hS1, hS2⟩ := hSw; go_simp; try (with_reducible rfl))
    try simp only [List.getElem_toArray, List.getElem_cons_zero, List.getElem_cons_succ, Act.put, List.setIfInBounds_toArray, List.set_cons_zero, List.set_cons_succ]
    refine wpAnyH_take (i := 21) (v := ?vz3x21) rfl (by kernel_rfl) (by kernel_rfl) (by kernel_rfl) (fun _ _ _ h => h) (Or.inl ⟨by rfl, ?yz3x21⟩) hHeld ?rz3x21
    case yz3x21 => (intro wS hSw; obtain ⟨hS1, hS2⟩ := hSw; go_simp; try (with_reducible rfl))
    try simp only [List.getElem_toArray, List.getElem_cons_zero, List.getElem_cons_succ, Act.put, List.setIfInBounds_toArray, List.set_cons_zero, List.set_cons_succ]
    refine wpAnyH_take (i := 22) (v := ?vz3x22) rfl (by kernel_rfl) (by kernel_rfl) (by kernel_rfl) (fun _ _ _ h => h) (Or.inl ⟨by rfl, ?yz3x22⟩) hHeld ?rz3x22
    case yz3x22 => (intro wS hSw; obtain ⟨hS1, hS2⟩ := hSw; go_simp; try (with_reducible rfl))
    try simp only [List.getElem_toArray, List.getElem_cons_zero, List.getElem_cons_succ, Act.put, List.setIfInBounds_toArray, List.set_cons_zero, List.set_cons_succ]
    refine wpAnyH_take (i := 23) (v := ?vz3x23) rfl (by kernel_rfl) (by kernel_rfl) (by kernel_rfl) (fun _ _ _ h => h) (Or.inl ⟨by rfl, ?yz3x23⟩) hHeld ?rz3x23
    case yz3x23 => (intro wS hSw; obtain ⟨hS1, hS2⟩ := hSw; go_simp; try (with_reducible rfl))
    try simp only [List.getElem_toArray, List.getElem_cons_zero, List.getElem_cons_succ, Act.put, List.setIfInBounds_toArray, List.set_cons_zero, List.set_cons_succ]
    refine wpAnyH_done (by kernel_rfl) ?_ _
    go_wp2_with fail
    go_ret3
    exact ⟨none, 0, rfl, Nat.le_refl _, by simp [maxLen], ⟨fun h => by simp at h, fun _ h => by cases h⟩, hHeld.2⟩
  have d6 : decide (262144 < (k : Int)) = false := by simp; omega
  have d6' : decide (262144 < k) = false := by simp; omega
  rw [if_neg (by rintro (h | h); exact hk6 h; exact h hhd)] at hT
  have ht := fun hb => tail_pieces hhd hb
  have HTP := Lib.hid ht
  have hr12 := hr.take 12
  have hl12 : (b.take 12).length = 12 := by rw [List.length_take]; omega
  have HL12 := Lib.hid hl12
  clear ht hsum hX hhp hk hY4 hx4 hrX hlX hrY hlY hl hlow hy hhd hl12
  by_cases hmk : m < 20 + k
  · have e : oneE b y = ([], 0, 0) := by
      have : takenE b y = ([], 3) := by rw [hT, if_pos (by rw [List.length_drop, HL.out]; omega)]
      unfold oneE
      rw [this]
      rfl
    rw [e]
    clear hT e h16' hr hr12
    go_enter Tryz.func33, Tryz.ntmps33
    go_wp2_with fail
    refine HT4.out.mono ?_
    rintro e w1 ⟨rfl, rfl⟩
    go_wp2_with fail
    refine wp_region_held_drew (S := fun w' => w'.cell? ⟨ad.block, ad.off + 4, none⟩ = some (.int .u8 (x4.toNat : Int)) ∧ Below w.heap.size w w') (by kernel_rfl) ⟨a4, Below.drew (Below.refl _ _)⟩ (fun hHeld => ?_)
    refine wpAnyH_take (i := 0) (v := ?vz4x0) rfl (by kernel_rfl) (by kernel_rfl) (by kernel_rfl) (fun _ _ _ h => h) (Or.inl ⟨by rfl, ?yz4x0⟩) hHeld ?rz4x0
    case yz4x0 => (intro wS hSw; obtain ⟨hS1, hS2⟩ := hSw; go_simp; try (with_reducible rfl))
    try simp only [List.getElem_toArray, List.getElem_cons_zero, List.getElem_cons_succ, Act.put, List.setIfInBounds_toArray, List.set_cons_zero, List.set_cons_succ]
    refine wpAnyH_take (i := 1) (v := ?vz4x1) rfl (by kernel_rfl) (by kernel_rfl) (by kernel_rfl) (fun _ _ _ h => h) (Or.inl ⟨by rfl, ?yz4x1⟩) hHeld ?rz4x1
    case yz4x1 => (intro wS hSw; obtain ⟨hS1, hS2⟩ := hSw; go_simp; try (with_reducible rfl))
    try simp only [List.getElem_toArray, List.getElem_cons_zero, List.getElem_cons_succ, Act.put, List.setIfInBounds_toArray, List.set_cons_zero, List.set_cons_succ]
    refine wpAnyH_take (i := 2) (v := ?vz4x2) rfl (by kernel_rfl) (by kernel_rfl) (by kernel_rfl) (fun _ _ _ h => h) (Or.inl ⟨by rfl, ?yz4x2⟩) hHeld ?rz4x2
    case yz4x2 => (intro wS hSw; obtain ⟨hS1, hS2⟩ := hSw; go_simp; try (with_reducible rfl))
    try simp only [List.getElem_toArray, List.getElem_cons_zero, List.getElem_cons_succ, Act.put, List.setIfInBounds_toArray, List.set_cons_zero, List.set_cons_succ]
    refine wpAnyH_take (i := 3) (v := ?vz4x3) rfl (by kernel_rfl) (by kernel_rfl) (by kernel_rfl) (fun _ _ _ h => h) (Or.inl ⟨by rfl, ?yz4x3⟩) hHeld ?rz4x3
    case yz4x3 => (intro wS hSw; obtain ⟨hS1, hS2⟩ := hSw; go_simp; try (with_reducible rfl))
    try simp only [List.getElem_toArray, List.getElem_cons_zero, List.getElem_cons_succ, Act.put, List.setIfInBounds_toArray, List.set_cons_zero, List.set_cons_succ]
    refine wpAnyH_ready (rs := [4]) (by kernel_rfl) (by simp) (AllReadyH.cons rfl (fun K hK => ?_) AllReadyH.nil)
    go_simp
    go_at_call 31; refine (HOF.out _ hHeld.2).mono ?_
    rintro e w2 ⟨rfl, rfl⟩
    go_wp2_with fail
    refine hK.out _ _ hHeld (fun hHeld => ?_)
    clear hK K
    try simp only [List.getElem_toArray, List.getElem_cons_zero, List.getElem_cons_succ, Act.put, List.setIfInBounds_toArray, List.set_cons_zero, List.set_cons_succ]
    refine wpAnyH_ready (rs := [5]) (by kernel_rfl) (by simp) (AllReadyH.cons rfl (fun K hK => ?_) AllReadyH.nil)
    go_simp
    go_at_call 82; refine (HS2.out _ hHeld.2).mono ?_
    rintro e w3 ⟨rfl, hb3⟩
    have hH3 := And.intro ((hb3.cell (World.block_lt_of_cell? _ _ hHeld.1)).trans hHeld.1) (bl_trans hHeld.2 hb3)
    clear hHeld
    go_wp2_with fail
    refine hK.out _ _ hH3 (fun hHeld => ?_)
    clear hK K
    try simp only [List.getElem_toArray, List.getElem_cons_zero, List.getElem_cons_succ, Act.put, List.setIfInBounds_toArray, List.set_cons_zero, List.set_cons_succ]
    refine wpAnyH_take (i := 6) (v := ?vz4x6) rfl (by kernel_rfl) (by kernel_rfl) (by kernel_rfl) (fun _ _ _ h => h) (Or.inl ⟨by rfl, ?yz4x6⟩) hHeld ?rz4x6
    case yz4x6 => (intro wS hSw; obtain ⟨hS1, hS2⟩ := hSw; go_simp; try (with_reducible rfl))
    try simp only [List.getElem_toArray, List.getElem_cons_zero, List.getElem_cons_succ, Act.put, List.setIfInBounds_toArray, List.set_cons_zero, List.set_cons_succ]
    refine wpAnyH_take (i := 7) (v := ?vz4x7) rfl (by kernel_rfl) (by kernel_rfl) (by kernel_rfl) (fun _ _ _ h => h) (Or.inl ⟨by rfl, ?yz4x7⟩) hHeld ?rz4x7
    case yz4x7 => (intro wS hSw; obtain ⟨hS1, hS2⟩ := hSw; go_simp; try (with_reducible rfl))
    try simp only [List.getElem_toArray, List.getElem_cons_zero, List.getElem_cons_succ, Act.put, List.setIfInBounds_toArray, List.set_cons_zero, List.set_cons_succ]
    refine wpAnyH_take (i := 8) (v := ?vz4x8) rfl (by kernel_rfl) (by kernel_rfl) (by kernel_rfl) (fun _ _ _ h => h) (Or.inl ⟨by rfl, ?yz4x8⟩) hHeld ?rz4x8
    case yz4x8 => (intro wS hSw; obtain ⟨hS1, hS2⟩ := hSw; go_simp; try (with_reducible rfl))
    try simp only [List.getElem_toArray, List.getElem_cons_zero, List.getElem_cons_succ, Act.put, List.setIfInBounds_toArray, List.set_cons_zero, List.set_cons_succ]
    refine wpAnyH_take (i := 9) (v := ?vz4x9) rfl (by kernel_rfl) (by kernel_rfl) (by kernel_rfl) (fun _ _ _ h => h) (Or.inl ⟨by rfl, ?yz4x9⟩) hHeld ?rz4x9
    case yz4x9 => (intro wS hSw; obtain ⟨hS1, hS2⟩ := hSw; go_simp; try (with_reducible rfl))
    try simp only [List.getElem_toArray, List.getElem_cons_zero, List.getElem_cons_succ, Act.put, List.setIfInBounds_toArray, List.set_cons_zero, List.set_cons_succ]
    refine wpAnyH_take (i := 10) (v := ?vz4x10) rfl (by kernel_rfl) (by kernel_rfl) (by kernel_rfl) (fun _ _ _ h => h) (Or.inl ⟨by rfl, ?yz4x10⟩) hHeld ?rz4x10
    case yz4x10 => (intro wS hSw; obtain ⟨hS1, hS2⟩ := hSw; go_simp; try (with_reducible rfl))
    try simp only [List.getElem_toArray, List.getElem_cons_zero, List.getElem_cons_succ, Act.put, List.setIfInBounds_toArray, List.set_cons_zero, List.set_cons_succ]
    refine wpAnyH_take (i := 11) (v := ?vz4x11) rfl (by kernel_rfl) (by kernel_rfl) (by kernel_rfl) (fun _ _ _ h => h) (Or.inl ⟨by rfl, ?yz4x11⟩) hHeld ?rz4x11
    case yz4x11 => (intro wS hSw; obtain ⟨hS1, hS2⟩ := hSw; go_simp; try (with_reducible rfl))
    try simp only [List.getElem_toArray, List.getElem_cons_zero, List.getElem_cons_succ, Act.put, List.setIfInBounds_toArray, List.set_cons_zero, List.set_cons_succ]
    refine wpAnyH_take (i := 12) (v := ?vz4x12) rfl (by kernel_rfl) (by kernel_rfl) (by kernel_rfl) (fun _ _ _ h => h) (Or.inl ⟨by rfl, ?yz4x12⟩) hHeld ?rz4x12
    case yz4x12 => (intro wS hSw; obtain ⟨hS1, hS2⟩ := hSw; go_simp; try (with_reducible rfl))
    try simp only [List.getElem_toArray, List.getElem_cons_zero, List.getElem_cons_succ, Act.put, List.setIfInBounds_toArray, List.set_cons_zero, List.set_cons_succ]
    refine wpAnyH_take (i := 13) (v := ?vz4x13) rfl (by kernel_rfl) (by kernel_rfl) (by kernel_rfl) (fun _ _ _ h => h) (Or.inl ⟨by rfl, ?yz4x13⟩) hHeld ?rz4x13
    case yz4x13 => (intro wS hSw; obtain ⟨hS1, hS2⟩ := hSw; go_simp; try (with_reducible rfl))
    try simp only [List.getElem_toArray, List.getElem_cons_zero, List.getElem_cons_succ, Act.put, List.setIfInBounds_toArray, List.set_cons_zero, List.set_cons_succ]
    refine wpAnyH_take (i := 14) (v := ?vz4x14) rfl (by kernel_rfl) (by kernel_rfl) (by kernel_rfl) (fun _ _ _ h => h) (Or.inl ⟨by rfl, ?yz4x14⟩) hHeld ?rz4x14
    case yz4x14 => (intro wS hSw; obtain ⟨hS1, hS2⟩ := hSw; go_simp; try (with_reducible rfl))
    try simp only [List.getElem_toArray, List.getElem_cons_zero, List.getElem_cons_succ, Act.put, List.setIfInBounds_toArray, List.set_cons_zero, List.set_cons_succ]
    refine wpAnyH_take (i := 15) (v := ?vz4x15) rfl (by kernel_rfl) (by kernel_rfl) (by kernel_rfl) (fun _ _ _ h => h) (Or.inl ⟨by rfl, ?yz4x15⟩) hHeld ?rz4x15
    case yz4x15 => (intro wS hSw; obtain ⟨hS1, hS2⟩ := hSw; go_simp; try (with_reducible rfl))
    try simp only [List.getElem_toArray, List.getElem_cons_zero, List.getElem_cons_succ, Act.put, List.setIfInBounds_toArray, List.set_cons_zero, List.set_cons_succ]
    refine wpAnyH_take (i := 17) (v := ?vz4x17) rfl (by kernel_rfl) (by kernel_rfl) (by kernel_rfl) (fun _ _ _ h => h) (Or.inl ⟨by rfl, ?yz4x17⟩) hHeld ?rz4x17
    case yz4x17 => (intro wS hSw; obtain ⟨hS1, hS2⟩ := hSw; go_simp; try (with_reducible rfl))
    try simp only [List.getElem_toArray, List.getElem_cons_zero, List.getElem_cons_succ, Act.put, List.setIfInBounds_toArray, List.set_cons_zero, List.set_cons_succ]
    refine wpAnyH_ready (rs := [16]) (by kernel_rfl) (by simp) (AllReadyH.cons rfl (fun K hK => ?_) AllReadyH.nil)
    go_simp
    go_at_call 81; refine (HTY.out _ hHeld.2).mono ?_
    rintro e w4 ⟨rfl, rfl⟩
    go_wp2_with fail
    refine hK.out _ _ hHeld (fun hHeld => ?_)
    clear hK K
    try simp only [List.getElem_toArray, List.getElem_cons_zero, List.getElem_cons_succ, Act.put, List.setIfInBounds_toArray, List.set_cons_zero, List.set_cons_succ]
    refine wpAnyH_take (i := 18) (v := ?vz4x18) rfl (by kernel_rfl) (by kernel_rfl) (by kernel_rfl) (fun _ _ _ h => h) (Or.inl ⟨by rfl, ?yz4x18⟩) hHeld ?rz4x18
    case yz4x18 => (intro wS hSw; obtain ⟨hS1, hS2⟩ := hSw; go_simp; try (with_reducible rfl))
    try simp only [List.getElem_toArray, List.getElem_cons_zero, List.getElem_cons_succ, Act.put, List.setIfInBounds_toArray, List.set_cons_zero, List.set_cons_succ]
    refine wpAnyH_take (i := 19) (v := ?vz4x19) rfl (by kernel_rfl) (by kernel_rfl) (by kernel_rfl) (fun _ _ _ h => h) (Or.inl ⟨by rfl, ?yz4x19⟩) hHeld ?rz4x19
    case yz4x19 => (intro wS hSw; obtain ⟨hS1, hS2⟩ := hSw; go_simp; try (with_reducible rfl))
    try simp only [List.getElem_toArray, List.getElem_cons_zero, List.getElem_cons_succ, Act.put, List.setIfInBounds_toArray, List.set_cons_zero, List.set_cons_succ]
    refine wpAnyH_take (i := 20) (v := ?vz4x20) rfl (by kernel_rfl) (by kernel_rfl) (by kernel_rfl) (fun _ _ _ h => h) (Or.inl ⟨by rfl, ?yz4x20⟩) hHeld ?rz4x20
    case yz4x20 => (intro wS hSw; obtain ⟨hS1, hS2⟩ := hSw; go_simp; try (with_reducible rfl))
    try simp only [List.getElem_toArray, List.getElem_cons_zero, List.getElem_cons_succ, Act.put, List.setIfInBounds_toArray, List.set_cons_zero, List.set_cons_succ]
    refine wpAnyH_take (i := 21) (v := ?vz4x21) rfl (by kernel_rfl) (by kernel_rfl) (by kernel_rfl) (fun _ _ _ h => h) (Or.inl ⟨by rfl, ?yz4x21⟩) hHeld ?rz4x21
    case yz4x21 => (intro wS hSw; obtain ⟨hS1, hS2⟩ := hSw; go_simp; try (with_reducible rfl))
    try simp only [List.getElem_toArray, List.getElem_cons_zero, List.getElem_cons_succ, Act.put, List.setIfInBounds_toArray, List.set_cons_zero, List.set_cons_succ]
    refine wpAnyH_take (i := 22) (v := ?vz4x22) rfl (by kernel_rfl) (by kernel_rfl) (by kernel_rfl) (fun _ _ _ h => h) (Or.inl ⟨by rfl, ?yz4x22⟩) hHeld ?rz4x22
    case yz4x22 => (intro wS hSw; obtain ⟨hS1, hS2⟩ := hSw; go_simp; try (with_reducible rfl))
    try simp only [List.getElem_toArray, List.getElem_cons_zero, List.getElem_cons_succ, Act.put, List.setIfInBounds_toArray, List.set_cons_zero, List.set_cons_succ]
    refine wpAnyH_take (i := 23) (v := ?vz4x23) rfl (by kernel_rfl) (by kernel_rfl) (by kernel_rfl) (fun _ _ _ h => h) (Or.inl ⟨by rfl, ?yz4x23⟩) hHeld ?rz4x23
    case yz4x23 => (intro wS hSw; obtain ⟨hS1, hS2⟩ := hSw; go_simp; try (with_reducible rfl))
    try simp only [List.getElem_toArray, List.getElem_cons_zero, List.getElem_cons_succ, Act.put, List.setIfInBounds_toArray, List.set_cons_zero, List.set_cons_succ]
    refine wpAnyH_done (by kernel_rfl) ?_ _
    go_wp2_with fail
    go_ret3
    exact ⟨none, 0, rfl, Nat.le_refl _, by simp [maxLen], ⟨fun h => by simp at h, fun _ h => by cases h⟩, hHeld.2⟩
  rw [if_neg (by rw [List.length_drop, HL.out]; omega)] at hT
  have htp := HTP.out (by rw [HL.out]; omega)
  obtain ⟨A3, c3', hr3, hl3⟩ := cut_mid (some ad) m c 16 k b w HL.out hr (by omega) hmc 16 (16 + (k : Int)) rfl (by omega)
  obtain ⟨A4, cZ, hrZ, hlZ⟩ := cut_mid (some ad) m c (16 + k) 4 b w HL.out hr (by omega) hmc (16 + (k : Int)) (20 + (k : Int)) (by omega) (by omega)
  have hsz := fun w' (hb : Below w.heap.size w w') => isSum_any A4 (c - (16 + k)) _ (ofE (b.take 12 ++ (b.take (16 + k)).drop 16)) w' hlZ.out (hrZ.below hb)
  by_cases hZ : (b.take (16 + k + 4)).drop (16 + k) = leB (ofE (b.take 12 ++ (b.take (16 + k)).drop 16))
  · have hz2 : ∀ w', Below w.heap.size w w' → Calls Tryz.prog 82 #[.slice A4 4 (c - (16 + k)), .int .u32 ((ofE (b.take 12 ++ (b.take (16 + k)).drop 16)).toNat : Int)] w' (fun e w2 => e = .returned (.bool true) ∧ Below w'.heap.size w' w2) := fun w' hb => (hsz w' hb).mono fun e w2 h => ⟨h.1.trans (by rw [decide_eq_true hZ]), h.2⟩
    have HSZ := Lib.hid hz2
    have e : oneE b y = ((b.drop 16).take k, k + 20, 0) := by
      have h2 : takenE b y = ((b.drop 16).take k, 0) := by rw [hT, if_neg (by rw [htp]; exact fun h => h hZ)]
      have h3 : ((b.drop 16).take k).length = k := by rw [List.length_take, List.length_drop, HL.out]; omega
      unfold oneE
      rw [h2]
      simp only [if_true, h3]
    have e8 : ((b.drop 16).take k).length = k := by rw [List.length_take, List.length_drop, HL.out]; omega
    have e9 : (b.take 12 ++ (b.take (16 + k)).drop 16).drop 12 = (b.drop 16).take k := by
      rw [List.drop_append_of_le_length (by rw [HL12.out]; omega), List.drop_of_length_le (by rw [HL12.out]; omega), List.nil_append, List.drop_take]
      congr 1
      omega
    rw [e]
    have E8 := Lib.hid e8
    have E9 := Lib.hid e9
    clear e8 e9
    clear hz2 hsz hT htp e hZ hrZ hlZ h16' hr
    go_enter Tryz.func33, Tryz.ntmps33
    go_wp2_with fail
    refine HT4.out.mono ?_
    rintro e w1 ⟨rfl, rfl⟩
    go_wp2_with fail
    refine wp_region_held_drew (S := fun w' => w'.cell? ⟨ad.block, ad.off + 4, none⟩ = some (.int .u8 (x4.toNat : Int)) ∧ Below w.heap.size w w') (by kernel_rfl) ⟨a4, Below.drew (Below.refl _ _)⟩ (fun hHeld => ?_)
    refine wpAnyH_take (i := 0) (v := ?vz5x0) rfl (by kernel_rfl) (by kernel_rfl) (by kernel_rfl) (fun _ _ _ h => h) (Or.inl ⟨by rfl, ?yz5x0⟩) hHeld ?rz5x0
    case yz5x0 => (intro wS hSw; obtain ⟨hS1, hS2⟩ := hSw; go_simp; try (with_reducible rfl))
    try simp only [List.getElem_toArray, List.getElem_cons_zero, List.getElem_cons_succ, Act.put, List.setIfInBounds_toArray, List.set_cons_zero, List.set_cons_succ]
    refine wpAnyH_take (i := 1) (v := ?vz5x1) rfl (by kernel_rfl) (by kernel_rfl) (by kernel_rfl) (fun _ _ _ h => h) (Or.inl ⟨by rfl, ?yz5x1⟩) hHeld ?rz5x1
    case yz5x1 => (intro wS hSw; obtain ⟨hS1, hS2⟩ := hSw; go_simp; try (with_reducible rfl))
    try simp only [List.getElem_toArray, List.getElem_cons_zero, List.getElem_cons_succ, Act.put, List.setIfInBounds_toArray, List.set_cons_zero, List.set_cons_succ]
    refine wpAnyH_take (i := 2) (v := ?vz5x2) rfl (by kernel_rfl) (by kernel_rfl) (by kernel_rfl) (fun _ _ _ h => h) (Or.inl ⟨by rfl, ?yz5x2⟩) hHeld ?rz5x2
    case yz5x2 => (intro wS hSw; obtain ⟨hS1, hS2⟩ := hSw; go_simp; try (with_reducible rfl))
    try simp only [List.getElem_toArray, List.getElem_cons_zero, List.getElem_cons_succ, Act.put, List.setIfInBounds_toArray, List.set_cons_zero, List.set_cons_succ]
    refine wpAnyH_take (i := 3) (v := ?vz5x3) rfl (by kernel_rfl) (by kernel_rfl) (by kernel_rfl) (fun _ _ _ h => h) (Or.inl ⟨by rfl, ?yz5x3⟩) hHeld ?rz5x3
    case yz5x3 => (intro wS hSw; obtain ⟨hS1, hS2⟩ := hSw; go_simp; try (with_reducible rfl))
    try simp only [List.getElem_toArray, List.getElem_cons_zero, List.getElem_cons_succ, Act.put, List.setIfInBounds_toArray, List.set_cons_zero, List.set_cons_succ]
    refine wpAnyH_ready (rs := [4]) (by kernel_rfl) (by simp) (AllReadyH.cons rfl (fun K hK => ?_) AllReadyH.nil)
    go_simp
    go_at_call 31; refine (HOF.out _ hHeld.2).mono ?_
    rintro e w2 ⟨rfl, rfl⟩
    go_wp2_with fail
    refine hK.out _ _ hHeld (fun hHeld => ?_)
    clear hK K
    try simp only [List.getElem_toArray, List.getElem_cons_zero, List.getElem_cons_succ, Act.put, List.setIfInBounds_toArray, List.set_cons_zero, List.set_cons_succ]
    refine wpAnyH_ready (rs := [5]) (by kernel_rfl) (by simp) (AllReadyH.cons rfl (fun K hK => ?_) AllReadyH.nil)
    go_simp
    go_at_call 82; refine (HS2.out _ hHeld.2).mono ?_
    rintro e w3 ⟨rfl, hb3⟩
    have hH3 := And.intro ((hb3.cell (World.block_lt_of_cell? _ _ hHeld.1)).trans hHeld.1) (bl_trans hHeld.2 hb3)
    clear hHeld
    go_wp2_with fail
    refine hK.out _ _ hH3 (fun hHeld => ?_)
    clear hK K
    try simp only [List.getElem_toArray, List.getElem_cons_zero, List.getElem_cons_succ, Act.put, List.setIfInBounds_toArray, List.set_cons_zero, List.set_cons_succ]
    refine wpAnyH_take (i := 6) (v := ?vz5x6) rfl (by kernel_rfl) (by kernel_rfl) (by kernel_rfl) (fun _ _ _ h => h) (Or.inl ⟨by rfl, ?yz5x6⟩) hHeld ?rz5x6
    case yz5x6 => (intro wS hSw; obtain ⟨hS1, hS2⟩ := hSw; go_simp; try (with_reducible rfl))
    try simp only [List.getElem_toArray, List.getElem_cons_zero, List.getElem_cons_succ, Act.put, List.setIfInBounds_toArray, List.set_cons_zero, List.set_cons_succ]
    refine wpAnyH_take (i := 7) (v := ?vz5x7) rfl (by kernel_rfl) (by kernel_rfl) (by kernel_rfl) (fun _ _ _ h => h) (Or.inl ⟨by rfl, ?yz5x7⟩) hHeld ?rz5x7
    case yz5x7 => (intro wS hSw; obtain ⟨hS1, hS2⟩ := hSw; go_simp; try (with_reducible rfl))
    try simp only [List.getElem_toArray, List.getElem_cons_zero, List.getElem_cons_succ, Act.put, List.setIfInBounds_toArray, List.set_cons_zero, List.set_cons_succ]
    refine wpAnyH_take (i := 8) (v := ?vz5x8) rfl (by kernel_rfl) (by kernel_rfl) (by kernel_rfl) (fun _ _ _ h => h) (Or.inl ⟨by rfl, ?yz5x8⟩) hHeld ?rz5x8
    case yz5x8 => (intro wS hSw; obtain ⟨hS1, hS2⟩ := hSw; go_simp; try (with_reducible rfl))
    try simp only [List.getElem_toArray, List.getElem_cons_zero, List.getElem_cons_succ, Act.put, List.setIfInBounds_toArray, List.set_cons_zero, List.set_cons_succ]
    refine wpAnyH_take (i := 9) (v := ?vz5x9) rfl (by kernel_rfl) (by kernel_rfl) (by kernel_rfl) (fun _ _ _ h => h) (Or.inl ⟨by rfl, ?yz5x9⟩) hHeld ?rz5x9
    case yz5x9 => (intro wS hSw; obtain ⟨hS1, hS2⟩ := hSw; go_simp; try (with_reducible rfl))
    try simp only [List.getElem_toArray, List.getElem_cons_zero, List.getElem_cons_succ, Act.put, List.setIfInBounds_toArray, List.set_cons_zero, List.set_cons_succ]
    refine wpAnyH_take (i := 10) (v := ?vz5x10) rfl (by kernel_rfl) (by kernel_rfl) (by kernel_rfl) (fun _ _ _ h => h) (Or.inl ⟨by rfl, ?yz5x10⟩) hHeld ?rz5x10
    case yz5x10 => (intro wS hSw; obtain ⟨hS1, hS2⟩ := hSw; go_simp; try (with_reducible rfl))
    try simp only [List.getElem_toArray, List.getElem_cons_zero, List.getElem_cons_succ, Act.put, List.setIfInBounds_toArray, List.set_cons_zero, List.set_cons_succ]
    refine wpAnyH_take (i := 11) (v := ?vz5x11) rfl (by kernel_rfl) (by kernel_rfl) (by kernel_rfl) (fun _ _ _ h => h) (Or.inl ⟨by rfl, ?yz5x11⟩) hHeld ?rz5x11
    case yz5x11 => (intro wS hSw; obtain ⟨hS1, hS2⟩ := hSw; go_simp; try (with_reducible rfl))
    try simp only [List.getElem_toArray, List.getElem_cons_zero, List.getElem_cons_succ, Act.put, List.setIfInBounds_toArray, List.set_cons_zero, List.set_cons_succ]
    refine wpAnyH_take (i := 12) (v := ?vz5x12) rfl (by kernel_rfl) (by kernel_rfl) (by kernel_rfl) (fun _ _ _ h => h) (Or.inl ⟨by rfl, ?yz5x12⟩) hHeld ?rz5x12
    case yz5x12 => (intro wS hSw; obtain ⟨hS1, hS2⟩ := hSw; go_simp; try (with_reducible rfl))
    try simp only [List.getElem_toArray, List.getElem_cons_zero, List.getElem_cons_succ, Act.put, List.setIfInBounds_toArray, List.set_cons_zero, List.set_cons_succ]
    refine wpAnyH_take (i := 13) (v := ?vz5x13) rfl (by kernel_rfl) (by kernel_rfl) (by kernel_rfl) (fun _ _ _ h => h) (Or.inl ⟨by rfl, ?yz5x13⟩) hHeld ?rz5x13
    case yz5x13 => (intro wS hSw; obtain ⟨hS1, hS2⟩ := hSw; go_simp; try (with_reducible rfl))
    try simp only [List.getElem_toArray, List.getElem_cons_zero, List.getElem_cons_succ, Act.put, List.setIfInBounds_toArray, List.set_cons_zero, List.set_cons_succ]
    refine wpAnyH_take (i := 14) (v := ?vz5x14) rfl (by kernel_rfl) (by kernel_rfl) (by kernel_rfl) (fun _ _ _ h => h) (Or.inl ⟨by rfl, ?yz5x14⟩) hHeld ?rz5x14
    case yz5x14 => (intro wS hSw; obtain ⟨hS1, hS2⟩ := hSw; go_simp; try (with_reducible rfl))
    try simp only [List.getElem_toArray, List.getElem_cons_zero, List.getElem_cons_succ, Act.put, List.setIfInBounds_toArray, List.set_cons_zero, List.set_cons_succ]
    refine wpAnyH_take (i := 15) (v := ?vz5x15) rfl (by kernel_rfl) (by kernel_rfl) (by kernel_rfl) (fun _ _ _ h => h) (Or.inl ⟨by rfl, ?yz5x15⟩) hHeld ?rz5x15
    case yz5x15 => (intro wS hSw; obtain ⟨hS1, hS2⟩ := hSw; go_simp; try (with_reducible rfl))
    try simp only [List.getElem_toArray, List.getElem_cons_zero, List.getElem_cons_succ, Act.put, List.setIfInBounds_toArray, List.set_cons_zero, List.set_cons_succ]
    refine wpAnyH_take (i := 17) (v := ?vz5x17) rfl (by kernel_rfl) (by kernel_rfl) (by kernel_rfl) (fun _ _ _ h => h) (Or.inl ⟨by rfl, ?yz5x17⟩) hHeld ?rz5x17
    case yz5x17 => (intro wS hSw; obtain ⟨hS1, hS2⟩ := hSw; go_simp; try (with_reducible rfl))
    try simp only [List.getElem_toArray, List.getElem_cons_zero, List.getElem_cons_succ, Act.put, List.setIfInBounds_toArray, List.set_cons_zero, List.set_cons_succ]
    refine wpAnyH_ready (rs := [16]) (by kernel_rfl) (by simp) (AllReadyH.cons rfl (fun K hK => ?_) AllReadyH.nil)
    go_simp
    go_at_call 81; refine (HTY.out _ hHeld.2).mono ?_
    rintro e w4 ⟨rfl, rfl⟩
    go_wp2_with fail
    refine hK.out _ _ hHeld (fun hHeld => ?_)
    clear hK K
    try simp only [List.getElem_toArray, List.getElem_cons_zero, List.getElem_cons_succ, Act.put, List.setIfInBounds_toArray, List.set_cons_zero, List.set_cons_succ]
    refine wpAnyH_take (i := 18) (v := ?vz5x18) rfl (by kernel_rfl) (by kernel_rfl) (by kernel_rfl) (fun _ _ _ h => h) (Or.inl ⟨by rfl, ?yz5x18⟩) hHeld ?rz5x18
    case yz5x18 => (intro wS hSw; obtain ⟨hS1, hS2⟩ := hSw; go_simp; try (with_reducible rfl))
    try simp only [List.getElem_toArray, List.getElem_cons_zero, List.getElem_cons_succ, Act.put, List.setIfInBounds_toArray, List.set_cons_zero, List.set_cons_succ]
    refine wpAnyH_take (i := 19) (v := ?vz5x19) rfl (by kernel_rfl) (by kernel_rfl) (by kernel_rfl) (fun _ _ _ h => h) (Or.inl ⟨by rfl, ?yz5x19⟩) hHeld ?rz5x19
    case yz5x19 => (intro wS hSw; obtain ⟨hS1, hS2⟩ := hSw; go_simp; try (with_reducible rfl))
    try simp only [List.getElem_toArray, List.getElem_cons_zero, List.getElem_cons_succ, Act.put, List.setIfInBounds_toArray, List.set_cons_zero, List.set_cons_succ]
    refine wpAnyH_take (i := 20) (v := ?vz5x20) rfl (by kernel_rfl) (by kernel_rfl) (by kernel_rfl) (fun _ _ _ h => h) (Or.inl ⟨by rfl, ?yz5x20⟩) hHeld ?rz5x20
    case yz5x20 => (intro wS hSw; obtain ⟨hS1, hS2⟩ := hSw; go_simp; try (with_reducible rfl))
    try simp only [List.getElem_toArray, List.getElem_cons_zero, List.getElem_cons_succ, Act.put, List.setIfInBounds_toArray, List.set_cons_zero, List.set_cons_succ]
    refine wpAnyH_take (i := 21) (v := ?vz5x21) rfl (by kernel_rfl) (by kernel_rfl) (by kernel_rfl) (fun _ _ _ h => h) (Or.inl ⟨by rfl, ?yz5x21⟩) hHeld ?rz5x21
    case yz5x21 => (intro wS hSw; obtain ⟨hS1, hS2⟩ := hSw; go_simp; try (with_reducible rfl))
    try simp only [List.getElem_toArray, List.getElem_cons_zero, List.getElem_cons_succ, Act.put, List.setIfInBounds_toArray, List.set_cons_zero, List.set_cons_succ]
    refine wpAnyH_take (i := 22) (v := ?vz5x22) rfl (by kernel_rfl) (by kernel_rfl) (by kernel_rfl) (fun _ _ _ h => h) (Or.inl ⟨by rfl, ?yz5x22⟩) hHeld ?rz5x22
    case yz5x22 => (intro wS hSw; obtain ⟨hS1, hS2⟩ := hSw; go_simp; try (with_reducible rfl))
    try simp only [List.getElem_toArray, List.getElem_cons_zero, List.getElem_cons_succ, Act.put, List.setIfInBounds_toArray, List.set_cons_zero, List.set_cons_succ]
    refine wpAnyH_take (i := 23) (v := ?vz5x23) rfl (by kernel_rfl) (by kernel_rfl) (by kernel_rfl) (fun _ _ _ h => h) (Or.inl ⟨by rfl, ?yz5x23⟩) hHeld ?rz5x23
    case yz5x23 => (intro wS hSw; obtain ⟨hS1, hS2⟩ := hSw; go_simp; try (with_reducible rfl))
    try simp only [List.getElem_toArray, List.getElem_cons_zero, List.getElem_cons_succ, Act.put, List.setIfInBounds_toArray, List.set_cons_zero, List.set_cons_succ]
    refine wpAnyH_done (by kernel_rfl) ?_ _
    have hs3 := hHeld.2.size
    have HBw := Lib.hid hHeld.2
    have hr12' := hr12.below hHeld.2
    clear hHeld
    go_wp2_with (at_builtin; refine wpList_append_bytes _ rfl _ _ rfl w3.heap.size _ [] rfl (Own.nil _ _) (some ad) 12 c (b.take 12) rfl HL12.out hr12' (by rw [HL12.out]; simp) (Nat.le_refl _) ?_)
    intro v5 w5 ho5 hg5 _
    have HG5 : Hid (Below w3.heap.size w3 w5) := Lib.hid (bl_grown (Below.refl _ _) hg5 (by simp [Value.ownBlock]))
    have HO5 : Hid (Own w5 w3.heap.size v5 (b.take 12)) := Lib.hid ho5
    have hs5 := HG5.out.size
    have hr3' := hr3.below (bl_trans HBw.out HG5.out)
    clear ho5 hg5 hr12'
    go_wp2_with (at_builtin; refine wpList_append_bytes _ rfl _ _ rfl w3.heap.size _ (b.take 12) rfl HO5.out A3 k (c - 16) ((b.take (16 + k)).drop 16) rfl hl3.out hr3' (by rw [HL12.out, hl3.out]; omega) (by omega) ?_)
    intro v6 w6 ho6 hg6 _
    have HG6 : Hid (Below w3.heap.size w3 w6) := Lib.hid (bl_grown HG5.out hg6 (fun q hq => (HO5.out.lt q hq).1))
    have HB6 := Lib.hid (bl_trans HBw.out HG6.out)
    obtain ⟨A6, n6, c6, rfl, HL6, hn6, hc6, hr6⟩ := ho6.form
    have HOF6 := Lib.hid (fun w' (hb : Below w6.heap.size w6 w') => refOf_any A6 n6 c6 _ w' HL6.out (hr6.below hb) (by omega))
    have HSZ6 := Lib.hid (fun w' (hb : Below w6.heap.size w6 w') => HSZ.out w' (bl_trans HB6.out hb))
    have hn12 : n6 = 12 + k := by have := HL6.out; rw [List.length_append, HL12.out, hl3.out] at this; omega
    obtain ⟨A7, cA7, hr7⟩ := cut_atU A6 n6 c6 12 _ w6 HL6.out hr6 (by omega) hn6 12 rfl ho6.isU8
    have HR7 := Lib.hid hr7
    have HN12 := Lib.hid hn12
    clear ho6 hg6 hr3' HO5 HG5 HG6 hr6 hr7 hn12
    go_wp2_with fail
    have w16 : IntKind.i64.wrap (16 + (k : Int)) = 16 + (k : Int) := wrap_small _ (by omega) (by omega)
    have w20 : IntKind.i64.wrap (20 + (k : Int)) = 20 + (k : Int) := wrap_small _ (by omega) (by omega)
    refine wp_region_held_drew (S := fun w' => Below w6.heap.size w6 w') (by kernel_rfl) (Below.drew (Below.refl _ _)) (fun hHeld => ?_)
    refine wpAnyH_take (i := 0) (v := ?vzb5x0) rfl (by kernel_rfl) (by kernel_rfl) (by kernel_rfl) (fun _ _ _ h => h) (Or.inl ⟨by rfl, ?yzb5x0⟩) hHeld ?rzb5x0
    case yzb5x0 => (intro wS hSw; go_simp; try (with_reducible rfl))
    try simp only [List.getElem_toArray, List.getElem_cons_zero, List.getElem_cons_succ, Act.put, List.setIfInBounds_toArray, List.set_cons_zero, List.set_cons_succ]
    refine wpAnyH_take (i := 1) (v := ?vzb5x1) rfl (by kernel_rfl) (by kernel_rfl) (by kernel_rfl) (fun _ _ _ h => h) (Or.inl ⟨by rfl, ?yzb5x1⟩) hHeld ?rzb5x1
    case yzb5x1 => (intro wS hSw; go_simp; try (with_reducible rfl))
    try simp only [List.getElem_toArray, List.getElem_cons_zero, List.getElem_cons_succ, Act.put, List.setIfInBounds_toArray, List.set_cons_zero, List.set_cons_succ]
    refine wpAnyH_take (i := 2) (v := ?vzb5x2) rfl (by kernel_rfl) (by kernel_rfl) (by kernel_rfl) (fun _ _ _ h => h) (Or.inl ⟨by rfl, ?yzb5x2⟩) hHeld ?rzb5x2
    case yzb5x2 => (intro wS hSw; go_simp; try (with_reducible rfl))
    try simp only [List.getElem_toArray, List.getElem_cons_zero, List.getElem_cons_succ, Act.put, List.setIfInBounds_toArray, List.set_cons_zero, List.set_cons_succ]
    refine wpAnyH_take (i := 3) (v := ?vzb5x3) rfl (by kernel_rfl) (by kernel_rfl) (by kernel_rfl) (fun _ _ _ h => h) (Or.inl ⟨by rfl, ?yzb5x3⟩) hHeld ?rzb5x3
    case yzb5x3 => (intro wS hSw; go_simp; try (with_reducible rfl))
    try simp only [List.getElem_toArray, List.getElem_cons_zero, List.getElem_cons_succ, Act.put, List.setIfInBounds_toArray, List.set_cons_zero, List.set_cons_succ]
    refine wpAnyH_take (i := 4) (v := ?vzb5x4) rfl (by kernel_rfl) (by kernel_rfl) (by kernel_rfl) (fun _ _ _ h => h) (Or.inl ⟨by rfl, ?yzb5x4⟩) hHeld ?rzb5x4
    case yzb5x4 => (intro wS hSw; go_simp; try (with_reducible rfl))
    try simp only [List.getElem_toArray, List.getElem_cons_zero, List.getElem_cons_succ, Act.put, List.setIfInBounds_toArray, List.set_cons_zero, List.set_cons_succ]
    refine wpAnyH_take (i := 5) (v := ?vzb5x5) rfl (by kernel_rfl) (by kernel_rfl) (by kernel_rfl) (fun _ _ _ h => h) (Or.inl ⟨by rfl, ?yzb5x5⟩) hHeld ?rzb5x5
    case yzb5x5 => (intro wS hSw; go_simp; try (with_reducible rfl))
    try simp only [List.getElem_toArray, List.getElem_cons_zero, List.getElem_cons_succ, Act.put, List.setIfInBounds_toArray, List.set_cons_zero, List.set_cons_succ]
    refine wpAnyH_take (i := 6) (v := ?vzb5x6) rfl (by kernel_rfl) (by kernel_rfl) (by kernel_rfl) (fun _ _ _ h => h) (Or.inl ⟨by rfl, ?yzb5x6⟩) hHeld ?rzb5x6
    case yzb5x6 => (intro wS hSw; go_simp; try (with_reducible rfl))
    try simp only [List.getElem_toArray, List.getElem_cons_zero, List.getElem_cons_succ, Act.put, List.setIfInBounds_toArray, List.set_cons_zero, List.set_cons_succ]
    refine wpAnyH_ready (rs := [7]) (by kernel_rfl) (by simp) (AllReadyH.cons rfl (fun K hK => ?_) AllReadyH.nil)
    go_simp
    go_at_call 31; refine (HOF6.out _ hHeld).mono ?_
    rintro e w7 ⟨rfl, rfl⟩
    go_wp2_with fail
    refine hK.out _ _ hHeld (fun hHeld => ?_)
    clear hK K
    try simp only [List.getElem_toArray, List.getElem_cons_zero, List.getElem_cons_succ, Act.put, List.setIfInBounds_toArray, List.set_cons_zero, List.set_cons_succ]
    refine wpAnyH_ready (rs := [8]) (by kernel_rfl) (by simp) (AllReadyH.cons rfl (fun K hK => ?_) AllReadyH.nil)
    go_simp
    go_at_call 82; refine (HSZ6.out _ hHeld).mono ?_
    rintro e w8 ⟨rfl, hb8⟩
    have hH8 := bl_trans hHeld hb8
    clear hHeld
    go_wp2_with fail
    refine hK.out _ _ hH8 (fun hHeld => ?_)
    clear hK K
    try simp only [List.getElem_toArray, List.getElem_cons_zero, List.getElem_cons_succ, Act.put, List.setIfInBounds_toArray, List.set_cons_zero, List.set_cons_succ]
    refine wpAnyH_take (i := 9) (v := ?vzb5x9) rfl (by kernel_rfl) (by kernel_rfl) (by kernel_rfl) (fun _ _ _ h => h) (Or.inl ⟨by rfl, ?yzb5x9⟩) hHeld ?rzb5x9
    case yzb5x9 => (intro wS hSw; go_simp; try (with_reducible rfl))
    try simp only [List.getElem_toArray, List.getElem_cons_zero, List.getElem_cons_succ, Act.put, List.setIfInBounds_toArray, List.set_cons_zero, List.set_cons_succ]
    refine wpAnyH_done (by kernel_rfl) ?_ _
    go_wp2_with fail
    go_ret3
    have h1 := E8.out
    have h2 := HN12.out
    have h3 := HR7.out
    rw [E9.out] at h3
    have h6 : n6 - 12 = k := by omega
    have h7 : ((k + 20 : Nat) : Int) = 20 + (k : Int) := by omega
    have e8 : Value.slice A7 k (c6 - 12) = Value.slice A7 (n6 - 12) (c6 - 12) := by rw [h6]
    refine ⟨A7, c6 - 12, ?_, by omega, by omega, h3.below hHeld, bl_trans HB6.out hHeld⟩
    rw [h1, h7]
    first | rfl | (rw [e8]; rfl)
  · have hz2 : ∀ w', Below w.heap.size w w' → Calls Tryz.prog 82 #[.slice A4 4 (c - (16 + k)), .int .u32 ((ofE (b.take 12 ++ (b.take (16 + k)).drop 16)).toNat : Int)] w' (fun e w2 => e = .returned (.bool false) ∧ Below w'.heap.size w' w2) := fun w' hb => (hsz w' hb).mono fun e w2 h => ⟨h.1.trans (by rw [decide_eq_false hZ]), h.2⟩
    have HSZ := Lib.hid hz2
    have e : oneE b y = ([], 0, 70) := by
      have h2 : takenE b y = ([], 70) := by rw [hT, if_pos (by rw [htp]; exact hZ)]
      unfold oneE
      rw [h2]
      rfl
    rw [e]
    clear hz2 hsz hT htp e hZ hrZ hlZ h16' hr
    go_enter Tryz.func33, Tryz.ntmps33
    go_wp2_with fail
    refine HT4.out.mono ?_
    rintro e w1 ⟨rfl, rfl⟩
    go_wp2_with fail
    refine wp_region_held_drew (S := fun w' => w'.cell? ⟨ad.block, ad.off + 4, none⟩ = some (.int .u8 (x4.toNat : Int)) ∧ Below w.heap.size w w') (by kernel_rfl) ⟨a4, Below.drew (Below.refl _ _)⟩ (fun hHeld => ?_)
    refine wpAnyH_take (i := 0) (v := ?vz6x0) rfl (by kernel_rfl) (by kernel_rfl) (by kernel_rfl) (fun _ _ _ h => h) (Or.inl ⟨by rfl, ?yz6x0⟩) hHeld ?rz6x0
    case yz6x0 => (intro wS hSw; obtain ⟨hS1, hS2⟩ := hSw; go_simp; try (with_reducible rfl))
    try simp only [List.getElem_toArray, List.getElem_cons_zero, List.getElem_cons_succ, Act.put, List.setIfInBounds_toArray, List.set_cons_zero, List.set_cons_succ]
    refine wpAnyH_take (i := 1) (v := ?vz6x1) rfl (by kernel_rfl) (by kernel_rfl) (by kernel_rfl) (fun _ _ _ h => h) (Or.inl ⟨by rfl, ?yz6x1⟩) hHeld ?rz6x1
    case yz6x1 => (intro wS hSw; obtain ⟨hS1, hS2⟩ := hSw; go_simp; try (with_reducible rfl))
    try simp only [List.getElem_toArray, List.getElem_cons_zero, List.getElem_cons_succ, Act.put, List.setIfInBounds_toArray, List.set_cons_zero, List.set_cons_succ]
    refine wpAnyH_take (i := 2) (v := ?vz6x2) rfl (by kernel_rfl) (by kernel_rfl) (by kernel_rfl) (fun _ _ _ h => h) (Or.inl ⟨by rfl, ?yz6x2⟩) hHeld ?rz6x2
    case yz6x2 => (intro wS hSw; obtain ⟨hS1, hS2⟩ := hSw; go_simp; try (with_reducible rfl))
    try simp only [List.getElem_toArray, List.getElem_cons_zero, List.getElem_cons_succ, Act.put, List.setIfInBounds_toArray, List.set_cons_zero, List.set_cons_succ]
    refine wpAnyH_take (i := 3) (v := ?vz6x3) rfl (by kernel_rfl) (by kernel_rfl) (by kernel_rfl) (fun _ _ _ h => h) (Or.inl ⟨by rfl, ?yz6x3⟩) hHeld ?rz6x3
    case yz6x3 => (intro wS hSw; obtain ⟨hS1, hS2⟩ := hSw; go_simp; try (with_reducible rfl))
    try simp only [List.getElem_toArray, List.getElem_cons_zero, List.getElem_cons_succ, Act.put, List.setIfInBounds_toArray, List.set_cons_zero, List.set_cons_succ]
    refine wpAnyH_ready (rs := [4]) (by kernel_rfl) (by simp) (AllReadyH.cons rfl (fun K hK => ?_) AllReadyH.nil)
    go_simp
    go_at_call 31; refine (HOF.out _ hHeld.2).mono ?_
    rintro e w2 ⟨rfl, rfl⟩
    go_wp2_with fail
    refine hK.out _ _ hHeld (fun hHeld => ?_)
    clear hK K
    try simp only [List.getElem_toArray, List.getElem_cons_zero, List.getElem_cons_succ, Act.put, List.setIfInBounds_toArray, List.set_cons_zero, List.set_cons_succ]
    refine wpAnyH_ready (rs := [5]) (by kernel_rfl) (by simp) (AllReadyH.cons rfl (fun K hK => ?_) AllReadyH.nil)
    go_simp
    go_at_call 82; refine (HS2.out _ hHeld.2).mono ?_
    rintro e w3 ⟨rfl, hb3⟩
    have hH3 := And.intro ((hb3.cell (World.block_lt_of_cell? _ _ hHeld.1)).trans hHeld.1) (bl_trans hHeld.2 hb3)
    clear hHeld
    go_wp2_with fail
    refine hK.out _ _ hH3 (fun hHeld => ?_)
    clear hK K
    try simp only [List.getElem_toArray, List.getElem_cons_zero, List.getElem_cons_succ, Act.put, List.setIfInBounds_toArray, List.set_cons_zero, List.set_cons_succ]
    refine wpAnyH_take (i := 6) (v := ?vz6x6) rfl (by kernel_rfl) (by kernel_rfl) (by kernel_rfl) (fun _ _ _ h => h) (Or.inl ⟨by rfl, ?yz6x6⟩) hHeld ?rz6x6
    case yz6x6 => (intro wS hSw; obtain ⟨hS1, hS2⟩ := hSw; go_simp; try (with_reducible rfl))
    try simp only [List.getElem_toArray, List.getElem_cons_zero, List.getElem_cons_succ, Act.put, List.setIfInBounds_toArray, List.set_cons_zero, List.set_cons_succ]
    refine wpAnyH_take (i := 7) (v := ?vz6x7) rfl (by kernel_rfl) (by kernel_rfl) (by kernel_rfl) (fun _ _ _ h => h) (Or.inl ⟨by rfl, ?yz6x7⟩) hHeld ?rz6x7
    case yz6x7 => (intro wS hSw; obtain ⟨hS1, hS2⟩ := hSw; go_simp; try (with_reducible rfl))
    try simp only [List.getElem_toArray, List.getElem_cons_zero, List.getElem_cons_succ, Act.put, List.setIfInBounds_toArray, List.set_cons_zero, List.set_cons_succ]
    refine wpAnyH_take (i := 8) (v := ?vz6x8) rfl (by kernel_rfl) (by kernel_rfl) (by kernel_rfl) (fun _ _ _ h => h) (Or.inl ⟨by rfl, ?yz6x8⟩) hHeld ?rz6x8
    case yz6x8 => (intro wS hSw; obtain ⟨hS1, hS2⟩ := hSw; go_simp; try (with_reducible rfl))
    try simp only [List.getElem_toArray, List.getElem_cons_zero, List.getElem_cons_succ, Act.put, List.setIfInBounds_toArray, List.set_cons_zero, List.set_cons_succ]
    refine wpAnyH_take (i := 9) (v := ?vz6x9) rfl (by kernel_rfl) (by kernel_rfl) (by kernel_rfl) (fun _ _ _ h => h) (Or.inl ⟨by rfl, ?yz6x9⟩) hHeld ?rz6x9
    case yz6x9 => (intro wS hSw; obtain ⟨hS1, hS2⟩ := hSw; go_simp; try (with_reducible rfl))
    try simp only [List.getElem_toArray, List.getElem_cons_zero, List.getElem_cons_succ, Act.put, List.setIfInBounds_toArray, List.set_cons_zero, List.set_cons_succ]
    refine wpAnyH_take (i := 10) (v := ?vz6x10) rfl (by kernel_rfl) (by kernel_rfl) (by kernel_rfl) (fun _ _ _ h => h) (Or.inl ⟨by rfl, ?yz6x10⟩) hHeld ?rz6x10
    case yz6x10 => (intro wS hSw; obtain ⟨hS1, hS2⟩ := hSw; go_simp; try (with_reducible rfl))
    try simp only [List.getElem_toArray, List.getElem_cons_zero, List.getElem_cons_succ, Act.put, List.setIfInBounds_toArray, List.set_cons_zero, List.set_cons_succ]
    refine wpAnyH_take (i := 11) (v := ?vz6x11) rfl (by kernel_rfl) (by kernel_rfl) (by kernel_rfl) (fun _ _ _ h => h) (Or.inl ⟨by rfl, ?yz6x11⟩) hHeld ?rz6x11
    case yz6x11 => (intro wS hSw; obtain ⟨hS1, hS2⟩ := hSw; go_simp; try (with_reducible rfl))
    try simp only [List.getElem_toArray, List.getElem_cons_zero, List.getElem_cons_succ, Act.put, List.setIfInBounds_toArray, List.set_cons_zero, List.set_cons_succ]
    refine wpAnyH_take (i := 12) (v := ?vz6x12) rfl (by kernel_rfl) (by kernel_rfl) (by kernel_rfl) (fun _ _ _ h => h) (Or.inl ⟨by rfl, ?yz6x12⟩) hHeld ?rz6x12
    case yz6x12 => (intro wS hSw; obtain ⟨hS1, hS2⟩ := hSw; go_simp; try (with_reducible rfl))
    try simp only [List.getElem_toArray, List.getElem_cons_zero, List.getElem_cons_succ, Act.put, List.setIfInBounds_toArray, List.set_cons_zero, List.set_cons_succ]
    refine wpAnyH_take (i := 13) (v := ?vz6x13) rfl (by kernel_rfl) (by kernel_rfl) (by kernel_rfl) (fun _ _ _ h => h) (Or.inl ⟨by rfl, ?yz6x13⟩) hHeld ?rz6x13
    case yz6x13 => (intro wS hSw; obtain ⟨hS1, hS2⟩ := hSw; go_simp; try (with_reducible rfl))
    try simp only [List.getElem_toArray, List.getElem_cons_zero, List.getElem_cons_succ, Act.put, List.setIfInBounds_toArray, List.set_cons_zero, List.set_cons_succ]
    refine wpAnyH_take (i := 14) (v := ?vz6x14) rfl (by kernel_rfl) (by kernel_rfl) (by kernel_rfl) (fun _ _ _ h => h) (Or.inl ⟨by rfl, ?yz6x14⟩) hHeld ?rz6x14
    case yz6x14 => (intro wS hSw; obtain ⟨hS1, hS2⟩ := hSw; go_simp; try (with_reducible rfl))
    try simp only [List.getElem_toArray, List.getElem_cons_zero, List.getElem_cons_succ, Act.put, List.setIfInBounds_toArray, List.set_cons_zero, List.set_cons_succ]
    refine wpAnyH_take (i := 15) (v := ?vz6x15) rfl (by kernel_rfl) (by kernel_rfl) (by kernel_rfl) (fun _ _ _ h => h) (Or.inl ⟨by rfl, ?yz6x15⟩) hHeld ?rz6x15
    case yz6x15 => (intro wS hSw; obtain ⟨hS1, hS2⟩ := hSw; go_simp; try (with_reducible rfl))
    try simp only [List.getElem_toArray, List.getElem_cons_zero, List.getElem_cons_succ, Act.put, List.setIfInBounds_toArray, List.set_cons_zero, List.set_cons_succ]
    refine wpAnyH_take (i := 17) (v := ?vz6x17) rfl (by kernel_rfl) (by kernel_rfl) (by kernel_rfl) (fun _ _ _ h => h) (Or.inl ⟨by rfl, ?yz6x17⟩) hHeld ?rz6x17
    case yz6x17 => (intro wS hSw; obtain ⟨hS1, hS2⟩ := hSw; go_simp; try (with_reducible rfl))
    try simp only [List.getElem_toArray, List.getElem_cons_zero, List.getElem_cons_succ, Act.put, List.setIfInBounds_toArray, List.set_cons_zero, List.set_cons_succ]
    refine wpAnyH_ready (rs := [16]) (by kernel_rfl) (by simp) (AllReadyH.cons rfl (fun K hK => ?_) AllReadyH.nil)
    go_simp
    go_at_call 81; refine (HTY.out _ hHeld.2).mono ?_
    rintro e w4 ⟨rfl, rfl⟩
    go_wp2_with fail
    refine hK.out _ _ hHeld (fun hHeld => ?_)
    clear hK K
    try simp only [List.getElem_toArray, List.getElem_cons_zero, List.getElem_cons_succ, Act.put, List.setIfInBounds_toArray, List.set_cons_zero, List.set_cons_succ]
    refine wpAnyH_take (i := 18) (v := ?vz6x18) rfl (by kernel_rfl) (by kernel_rfl) (by kernel_rfl) (fun _ _ _ h => h) (Or.inl ⟨by rfl, ?yz6x18⟩) hHeld ?rz6x18
    case yz6x18 => (intro wS hSw; obtain ⟨hS1, hS2⟩ := hSw; go_simp; try (with_reducible rfl))
    try simp only [List.getElem_toArray, List.getElem_cons_zero, List.getElem_cons_succ, Act.put, List.setIfInBounds_toArray, List.set_cons_zero, List.set_cons_succ]
    refine wpAnyH_take (i := 19) (v := ?vz6x19) rfl (by kernel_rfl) (by kernel_rfl) (by kernel_rfl) (fun _ _ _ h => h) (Or.inl ⟨by rfl, ?yz6x19⟩) hHeld ?rz6x19
    case yz6x19 => (intro wS hSw; obtain ⟨hS1, hS2⟩ := hSw; go_simp; try (with_reducible rfl))
    try simp only [List.getElem_toArray, List.getElem_cons_zero, List.getElem_cons_succ, Act.put, List.setIfInBounds_toArray, List.set_cons_zero, List.set_cons_succ]
    refine wpAnyH_take (i := 20) (v := ?vz6x20) rfl (by kernel_rfl) (by kernel_rfl) (by kernel_rfl) (fun _ _ _ h => h) (Or.inl ⟨by rfl, ?yz6x20⟩) hHeld ?rz6x20
    case yz6x20 => (intro wS hSw; obtain ⟨hS1, hS2⟩ := hSw; go_simp; try (with_reducible rfl))
    try simp only [List.getElem_toArray, List.getElem_cons_zero, List.getElem_cons_succ, Act.put, List.setIfInBounds_toArray, List.set_cons_zero, List.set_cons_succ]
    refine wpAnyH_take (i := 21) (v := ?vz6x21) rfl (by kernel_rfl) (by kernel_rfl) (by kernel_rfl) (fun _ _ _ h => h) (Or.inl ⟨by rfl, ?yz6x21⟩) hHeld ?rz6x21
    case yz6x21 => (intro wS hSw; obtain ⟨hS1, hS2⟩ := hSw; go_simp; try (with_reducible rfl))
    try simp only [List.getElem_toArray, List.getElem_cons_zero, List.getElem_cons_succ, Act.put, List.setIfInBounds_toArray, List.set_cons_zero, List.set_cons_succ]
    refine wpAnyH_take (i := 22) (v := ?vz6x22) rfl (by kernel_rfl) (by kernel_rfl) (by kernel_rfl) (fun _ _ _ h => h) (Or.inl ⟨by rfl, ?yz6x22⟩) hHeld ?rz6x22
    case yz6x22 => (intro wS hSw; obtain ⟨hS1, hS2⟩ := hSw; go_simp; try (with_reducible rfl))
    try simp only [List.getElem_toArray, List.getElem_cons_zero, List.getElem_cons_succ, Act.put, List.setIfInBounds_toArray, List.set_cons_zero, List.set_cons_succ]
    refine wpAnyH_take (i := 23) (v := ?vz6x23) rfl (by kernel_rfl) (by kernel_rfl) (by kernel_rfl) (fun _ _ _ h => h) (Or.inl ⟨by rfl, ?yz6x23⟩) hHeld ?rz6x23
    case yz6x23 => (intro wS hSw; obtain ⟨hS1, hS2⟩ := hSw; go_simp; try (with_reducible rfl))
    try simp only [List.getElem_toArray, List.getElem_cons_zero, List.getElem_cons_succ, Act.put, List.setIfInBounds_toArray, List.set_cons_zero, List.set_cons_succ]
    refine wpAnyH_done (by kernel_rfl) ?_ _
    have hs3 := hHeld.2.size
    have HBw := Lib.hid hHeld.2
    have hr12' := hr12.below hHeld.2
    clear hHeld
    go_wp2_with (at_builtin; refine wpList_append_bytes _ rfl _ _ rfl w3.heap.size _ [] rfl (Own.nil _ _) (some ad) 12 c (b.take 12) rfl HL12.out hr12' (by rw [HL12.out]; simp) (Nat.le_refl _) ?_)
    intro v5 w5 ho5 hg5 _
    have HG5 : Hid (Below w3.heap.size w3 w5) := Lib.hid (bl_grown (Below.refl _ _) hg5 (by simp [Value.ownBlock]))
    have HO5 : Hid (Own w5 w3.heap.size v5 (b.take 12)) := Lib.hid ho5
    have hs5 := HG5.out.size
    have hr3' := hr3.below (bl_trans HBw.out HG5.out)
    clear ho5 hg5 hr12'
    go_wp2_with (at_builtin; refine wpList_append_bytes _ rfl _ _ rfl w3.heap.size _ (b.take 12) rfl HO5.out A3 k (c - 16) ((b.take (16 + k)).drop 16) rfl hl3.out hr3' (by rw [HL12.out, hl3.out]; omega) (by omega) ?_)
    intro v6 w6 ho6 hg6 _
    have HG6 : Hid (Below w3.heap.size w3 w6) := Lib.hid (bl_grown HG5.out hg6 (fun q hq => (HO5.out.lt q hq).1))
    have HB6 := Lib.hid (bl_trans HBw.out HG6.out)
    obtain ⟨A6, n6, c6, rfl, HL6, hn6, hc6, hr6⟩ := ho6.form
    have HOF6 := Lib.hid (fun w' (hb : Below w6.heap.size w6 w') => refOf_any A6 n6 c6 _ w' HL6.out (hr6.below hb) (by omega))
    have HSZ6 := Lib.hid (fun w' (hb : Below w6.heap.size w6 w') => HSZ.out w' (bl_trans HB6.out hb))
    have hn12 : n6 = 12 + k := by have := HL6.out; rw [List.length_append, HL12.out, hl3.out] at this; omega
    obtain ⟨A7, cA7, hr7⟩ := cut_atU A6 n6 c6 12 _ w6 HL6.out hr6 (by omega) hn6 12 rfl ho6.isU8
    have HR7 := Lib.hid hr7
    have HN12 := Lib.hid hn12
    clear ho6 hg6 hr3' HO5 HG5 HG6 hr6 hr7 hn12
    go_wp2_with fail
    have w16 : IntKind.i64.wrap (16 + (k : Int)) = 16 + (k : Int) := wrap_small _ (by omega) (by omega)
    have w20 : IntKind.i64.wrap (20 + (k : Int)) = 20 + (k : Int) := wrap_small _ (by omega) (by omega)
    refine wp_region_held_drew (S := fun w' => Below w6.heap.size w6 w') (by kernel_rfl) (Below.drew (Below.refl _ _)) (fun hHeld => ?_)
    refine wpAnyH_take (i := 0) (v := ?vzb6x0) rfl (by kernel_rfl) (by kernel_rfl) (by kernel_rfl) (fun _ _ _ h => h) (Or.inl ⟨by rfl, ?yzb6x0⟩) hHeld ?rzb6x0
    case yzb6x0 => (intro wS hSw; go_simp; try (with_reducible rfl))
    try simp only [List.getElem_toArray, List.getElem_cons_zero, List.getElem_cons_succ, Act.put, List.setIfInBounds_toArray, List.set_cons_zero, List.set_cons_succ]
    refine wpAnyH_take (i := 1) (v := ?vzb6x1) rfl (by kernel_rfl) (by kernel_rfl) (by kernel_rfl) (fun _ _ _ h => h) (Or.inl ⟨by rfl, ?yzb6x1⟩) hHeld ?rzb6x1
    case yzb6x1 => (intro wS hSw; go_simp; try (with_reducible rfl))
    try simp only [List.getElem_toArray, List.getElem_cons_zero, List.getElem_cons_succ, Act.put, List.setIfInBounds_toArray, List.set_cons_zero, List.set_cons_succ]
    refine wpAnyH_take (i := 2) (v := ?vzb6x2) rfl (by kernel_rfl) (by kernel_rfl) (by kernel_rfl) (fun _ _ _ h => h) (Or.inl ⟨by rfl, ?yzb6x2⟩) hHeld ?rzb6x2
    case yzb6x2 => (intro wS hSw; go_simp; try (with_reducible rfl))
    try simp only [List.getElem_toArray, List.getElem_cons_zero, List.getElem_cons_succ, Act.put, List.setIfInBounds_toArray, List.set_cons_zero, List.set_cons_succ]
    refine wpAnyH_take (i := 3) (v := ?vzb6x3) rfl (by kernel_rfl) (by kernel_rfl) (by kernel_rfl) (fun _ _ _ h => h) (Or.inl ⟨by rfl, ?yzb6x3⟩) hHeld ?rzb6x3
    case yzb6x3 => (intro wS hSw; go_simp; try (with_reducible rfl))
    try simp only [List.getElem_toArray, List.getElem_cons_zero, List.getElem_cons_succ, Act.put, List.setIfInBounds_toArray, List.set_cons_zero, List.set_cons_succ]
    refine wpAnyH_take (i := 4) (v := ?vzb6x4) rfl (by kernel_rfl) (by kernel_rfl) (by kernel_rfl) (fun _ _ _ h => h) (Or.inl ⟨by rfl, ?yzb6x4⟩) hHeld ?rzb6x4
    case yzb6x4 => (intro wS hSw; go_simp; try (with_reducible rfl))
    try simp only [List.getElem_toArray, List.getElem_cons_zero, List.getElem_cons_succ, Act.put, List.setIfInBounds_toArray, List.set_cons_zero, List.set_cons_succ]
    refine wpAnyH_take (i := 5) (v := ?vzb6x5) rfl (by kernel_rfl) (by kernel_rfl) (by kernel_rfl) (fun _ _ _ h => h) (Or.inl ⟨by rfl, ?yzb6x5⟩) hHeld ?rzb6x5
    case yzb6x5 => (intro wS hSw; go_simp; try (with_reducible rfl))
    try simp only [List.getElem_toArray, List.getElem_cons_zero, List.getElem_cons_succ, Act.put, List.setIfInBounds_toArray, List.set_cons_zero, List.set_cons_succ]
    refine wpAnyH_take (i := 6) (v := ?vzb6x6) rfl (by kernel_rfl) (by kernel_rfl) (by kernel_rfl) (fun _ _ _ h => h) (Or.inl ⟨by rfl, ?yzb6x6⟩) hHeld ?rzb6x6
    case yzb6x6 => (intro wS hSw; go_simp; try (with_reducible rfl))
    try simp only [List.getElem_toArray, List.getElem_cons_zero, List.getElem_cons_succ, Act.put, List.setIfInBounds_toArray, List.set_cons_zero, List.set_cons_succ]
    refine wpAnyH_ready (rs := [7]) (by kernel_rfl) (by simp) (AllReadyH.cons rfl (fun K hK => ?_) AllReadyH.nil)
    go_simp
    go_at_call 31; refine (HOF6.out _ hHeld).mono ?_
    rintro e w7 ⟨rfl, rfl⟩
    go_wp2_with fail
    refine hK.out _ _ hHeld (fun hHeld => ?_)
    clear hK K
    try simp only [List.getElem_toArray, List.getElem_cons_zero, List.getElem_cons_succ, Act.put, List.setIfInBounds_toArray, List.set_cons_zero, List.set_cons_succ]
    refine wpAnyH_ready (rs := [8]) (by kernel_rfl) (by simp) (AllReadyH.cons rfl (fun K hK => ?_) AllReadyH.nil)
    go_simp
    go_at_call 82; refine (HSZ6.out _ hHeld).mono ?_
    rintro e w8 ⟨rfl, hb8⟩
    have hH8 := bl_trans hHeld hb8
    clear hHeld
    go_wp2_with fail
    refine hK.out _ _ hH8 (fun hHeld => ?_)
    clear hK K
    try simp only [List.getElem_toArray, List.getElem_cons_zero, List.getElem_cons_succ, Act.put, List.setIfInBounds_toArray, List.set_cons_zero, List.set_cons_succ]
    refine wpAnyH_take (i := 9) (v := ?vzb6x9) rfl (by kernel_rfl) (by kernel_rfl) (by kernel_rfl) (fun _ _ _ h => h) (Or.inl ⟨by rfl, ?yzb6x9⟩) hHeld ?rzb6x9
    case yzb6x9 => (intro wS hSw; go_simp; try (with_reducible rfl))
    try simp only [List.getElem_toArray, List.getElem_cons_zero, List.getElem_cons_succ, Act.put, List.setIfInBounds_toArray, List.set_cons_zero, List.set_cons_succ]
    refine wpAnyH_done (by kernel_rfl) ?_ _
    go_wp2_with fail
    go_ret3
    exact ⟨none, 0, rfl, Nat.le_refl _, by simp [maxLen], ⟨fun h => by simp at h, fun _ h => by cases h⟩, bl_trans HB6.out hHeld⟩
end Go.Proofs.YtncpkblgiepdpaaGreat
