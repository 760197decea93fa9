/- The maker of machines: row: where a state goes, class by class. -/
import Derived.Test.YtcgfogdfcdndgaaGreatDoorDgJQ
import Derived.Test.YtcgfogdfcdndgaaGreatDoorDgIQ
import Derived.Test.YtcgfogdfcdndgaaGreatDoorRgJQ
set_option linter.unusedVariables false
set_option linter.unusedSimpArgs false
namespace Go.Proofs.YtcgfogdfcdndgaaGreatDoor
open Go.RowKit Go.Shelf
attribute [local go_sem] Oper.semAt_some

theorem Beh.congr {W : World} {b0 gl ga n : Nat} {sl : Nat → Value} {bs bs' : Nat → List Nat} (h : Beh W b0 gl ga n sl bs) (e : ∀ k, k < n → bs k = bs' k) : Beh W b0 gl ga n sl bs' :=
  ⟨h.row, h.room, h.lg, h.la, fun k hk => by rw [← e k hk]; exact h.each k hk, h.apart⟩
theorem Beh.below {W W' : World} {b0 gl ga n : Nat} {sl : Nat → Value} {bs : Nat → List Nat} (h : Beh W b0 gl ga n sl bs) (hb : Below W.heap.size W W') : Beh W' b0 gl ga n sl bs := h.keep fun i _ hi => hb.block i hi
/-- The k-th class's least byte. -/
def cD (E : List Ed) (k : Nat) : Nat := (leastsE E).getD k 0
theorem cD_lt (E : List Ed) (k : Nat) : cD E k < 256 := by
  unfold cD
  by_cases h : k < (leastsE E).length
  · rw [show (leastsE E).getD k 0 = (leastsE E)[k] from by simp [List.getD, h]]
    exact (mem_leasts.1 (List.getElem_mem h)).1
  · rw [show (leastsE E).getD k 0 = 0 from by simp [List.getD, h]]
    omega
theorem fk_pre (S : Nat) (E : List Ed) (l : List Nat) (F : List (List Nat)) (k : Nat) : fkD S E l F k <+: rowD S E l F (leastsE E) := by
  have h := row_pre S E l ((leastsE E).drop k) (fkD S E l F k)
  have e : rowD S E l (fkD S E l F k) ((leastsE E).drop k) = rowD S E l F (leastsE E) := by
    unfold fkD rowD
    rw [← List.foldl_append, List.take_append_drop]
  rwa [e] at h
theorem behD_len (E : List Ed) (c : Nat) (l : List Nat) : (behD E c l).length ≤ l.length * E.length := by
  induction l with
  | nil => simp [behD]
  | cons x l ih =>
    rw [show behD E c (x :: l) = ((edgesD E x).filter (byE c)).map Ed.tn ++ behD E c l from rfl, List.length_append, List.length_map, List.length_cons, Nat.add_mul, Nat.one_mul]
    have h1 := List.length_filter_le (byE c) (edgesD E x)
    have h2 := edges_lenD E x
    omega
theorem behD_next (E : List Ed) (c : Nat) (l : List Nat) (i : Nat) (h : i < l.length) : behD E c (l.take (i + 1)) = behD E c (l.take i) ++ ((edgesD E l[i]).filter (byE c)).map Ed.tn := by
  unfold behD
  rw [List.take_succ_eq_append_getElem h, List.flatMap_append]
  simp
/-- What an edge puts behind the classes ahead of the K-th. -/
def oneB (E : List Ed) (e : Ed) (K k : Nat) : List Nat := if k < K ∧ byE (cD E k) e = true then [e.tn] else []
theorem oneB_zero (E : List Ed) (e : Ed) (k : Nat) : oneB E e 0 k = [] := by unfold oneB; rw [if_neg (by omega)]
theorem oneB_len (E : List Ed) (e : Ed) (K k : Nat) : (oneB E e K k).length ≤ 1 := by unfold oneB; split <;> simp
theorem oneB_yes (E : List Ed) (e : Ed) (K : Nat) (h : byE (cD E K) e = true) (k : Nat) : oneB E e (K + 1) k = if k = K then [e.tn] else oneB E e K k := by
  unfold oneB
  by_cases hk : k = K
  · subst hk; rw [if_pos ⟨Nat.lt_succ_self k, h⟩, if_pos rfl]
  · rw [if_neg hk]
    by_cases hk2 : k < K
    · simp [hk2, show k < K + 1 by omega]
    · simp [hk2, show ¬ k < K + 1 by omega]
theorem oneB_no (E : List Ed) (e : Ed) (K : Nat) (h : byE (cD E K) e = false) (k : Nat) : oneB E e (K + 1) k = oneB E e K k := by
  unfold oneB
  by_cases hk : k = K
  · subst hk; simp [h]
  · by_cases hk2 : k < K
    · simp [hk2, show k < K + 1 by omega]
    · simp [hk2, show ¬ k < K + 1 by omega]
/-- What j edges of a state put behind class k. -/
def someB (E : List Ed) (es : List Ed) (j k : Nat) : List Nat := ((es.take j).filter (byE (cD E k))).map Ed.tn
theorem someB_next (E : List Ed) (es : List Ed) (j : Nat) (h : j < es.length) (n k : Nat) (hk : k < n) : someB E es (j + 1) k = someB E es j k ++ oneB E es[j] n k := by
  unfold someB oneB
  rw [List.take_succ_eq_append_getElem h, List.filter_append, List.map_append]
  congr 1
  by_cases hb : byE (cD E k) es[j] = true
  · rw [if_pos ⟨hk, hb⟩]; simp [hb]
  · rw [if_neg (fun h => hb h.2)]; simp [hb]
theorem someB_len (E : List Ed) (es : List Ed) (j k : Nat) : (someB E es j k).length ≤ es.length := by
  unfold someB
  rw [List.length_map]
  refine Nat.le_trans (List.length_filter_le _ _) ?_
  rw [List.length_take]
  omega
theorem wp_append_of_run {o : Oper} {a : Act} {w : World} {K : Act → World → Prop} {Q : Exit → Act → World → Prop} (s x : Operand) (t : TypeId) (ho : o.op = .call { callee := .builtin .append, args := #[s, x], argTypes := #[t, t] }) (v y : Value) (hs : a.eval s = v) (hx : a.eval x = y) {v' : Value} {w' : World}
    (hrun : (Builtin.append_ #[t, t] o.type #[v, y]).run Tryz.prog w = .ok v' w') (h : K (a.put o.dst v') w') : o.wp Tryz.prog a w K Q := by
  unfold Oper.wp execOp
  simp only [ho, resolve, invoke, builtin, Sem.run_bind, Sem.run_pure, Result.andThen_ok, List.map_toArray, List.map_cons, List.map_nil, hs, hx, hrun]
  exact h
theorem Beh.put2 {W : World} {b0 gl ga n : Nat} {sl : Nat → Value} {bs : Nat → List Nat} (h : Beh W b0 gl ga n sl bs) (hb : b0 ≤ W.heap.size) (ty : TypeId) {k : Nat} (hk : k < n) (x : Nat) (p : Nat) (hp : W.cell? ⟨p, 0, none⟩ = some (.int .i64 (x : Int))) (hlen : (bs k).length ≤ 100000000) :
    ∃ A m c W', (Builtin.append_ #[23, 23] ty #[sl k, .slice (some ⟨p, 0, none⟩) 1 1]).run Tryz.prog W = .ok (.slice A m c) W' ∧ W'.cell? ⟨gl, k, none⟩ = some (sl k) ∧ W'.frozen? ⟨gl, k, none⟩ = false ∧
      (∃ r, W.grownBy W' r ∧ ∀ i, r = some i → b0 ≤ i ∧ i ≠ gl ∧ ∃ cs, W.heap[i]? = some (.cells cs 3 (0, 0))) ∧ Beh (W'.setCell ⟨gl, k, none⟩ (.slice A m c)) b0 gl ga n (fun j => if j = k then .slice A m c else sl j) (fun j => if j = k then bs k ++ [x] else bs j) := by
  obtain ⟨v', W', h1, h2, h3, h4, h5⟩ := h.put hb ty hk x p hp hlen
  obtain ⟨A, c, e, _, _⟩ := (h5.each k hk).read
  simp only [if_pos rfl] at e
  subst e
  exact ⟨A, _, c, W', h1, h2, h3, h4, h5⟩
/-- What row answers. -/
def GotRw (W0 W1 : World) (n1 g gm gr S : Nat) (cl : Nat → Int) (X : List Int) (m : Mv) (rd : Nat) (F : List (List Nat)) (T : List (List Int)) (W : World) (zs : List Int) (e : Ending) (W' : World) : Prop :=
  ∃ vF vR q n, e = .returned (.slice (some ⟨q, 0, none⟩) n n) ∧ zs.length = n ∧ RdW W' (some ⟨q, 0, none⟩) zs ∧ W.heap.size ≤ q ∧ (∃ cs, W'.heap[q]? = some (.cells cs 3 (0, 0))) ∧ vR.ownBlock ≠ some q ∧
    MkW W0 W1 n1 g gm gr S cl X (fun _ => False) { m with fo := vF, ru := vR } rd F F F T W'

set_option maxRecDepth 100000 in
set_option maxHeartbeats 8000000 in
theorem row_any {W0 W1 : World} {n1 g gm gr S : Nat} {E : List Ed} {gf ge : Nat} {Af Ae : Nat → Option Addr} {cf ce : Nat → Nat} {cl : Nat → Int} {X : List Int} {vT vR vX vfr ved vls vF : Value} (st : StD W0 W1 n1 g gm gr S E gf ge Af Ae cf ce)
    (hfr : vfr = .slice (some ⟨gf, 0, none⟩) S S) (hed : ved = .slice (some ⟨ge, 0, none⟩) S S) (Al : Option Addr) (cls nl : Nat) (hls : vls = .slice Al nl cls) (hnl : (leastsE E).length = nl)
    (hLb : ∀ W', Kp n1 g gm gr W1 W' → ∀ k (h : k < (leastsE E).length), ∃ ad, Al = some ad ∧ W'.cell? (ad.add k) = some (.int .u8 (((leastsE E)[k] : Nat) : Int)))
    (Ax : Option Addr) (nx cx : Nat) (hen : vX = .slice Ax nx cx) (hx : X.length = nx) (hx2 : nx ≤ 64) (hX : RdW W0 Ax X) (rd : Nat) (hrd : rd < 800000)
    (F : List (List Nat)) (T : List (List Int)) (hF : F.length ≤ 512) (hgood : ∀ x ∈ F, GoodL S x) (A : Option Addr) (n c : Nat) (l : List Nat) (hn : l.length = n) (hn2 : n ≤ 2048) (hl : InN S l) (W : World)
    (h : MkW W0 W1 n1 g gm gr S cl X (fun _ => False) ⟨vT, vR, vX, vfr, ved, vls, vF⟩ rd F F F T W) (hr : RdZ W A l) :
    Calls Tryz.prog 31 #[.pointer (some ⟨g, 0, none⟩), .slice A n c] W
      (GotRw W0 W1 n1 g gm gr S cl X ⟨vT, vR, vX, vfr, ved, vls, vF⟩ (rd + nl) (rowD S E l F (leastsE E)) T W (nmD S E l (rowD S E l F (leastsE E)))) := by
  generalize hQ : GotRw W0 W1 n1 g gm gr S cl X ⟨vT, vR, vX, vfr, ved, vls, vF⟩ (rd + nl) (rowD S E l F (leastsE E)) T W (nmD S E l (rowD S E l F (leastsE E))) = Q
  have HQ := Lib.hid hQ
  have H0 := Lib.hid h
  have HR := Lib.hid hr
  have HN := Lib.hid hn
  have HNL := Lib.hid hnl
  have hnl2 : nl ≤ 256 := by rw [← hnl]; exact (leasts_len E).2
  have PL := Lib.hid st.pl
  have HIN := Lib.hid hl
  obtain ⟨f0, hm0, hf0⟩ := h.mr
  have c5 := hm0.c5
  have KW := Lib.hid hm0.kp
  have HC := Lib.hid (lists_any nl hnl2 W)
  clear hQ h hr hn hnl hm0 hf0 hl
  subst hfr hed hls hen
  go_enter Tryz.func31, Tryz.ntmps31
  go_wp2_with fail
  refine HC.out.mono ?_
  rintro e w1 ⟨gl, ga, sl, rfl, hbe, hb1⟩
  have BE := Lib.hid (hbe.congr (bs' := fun k => behD E (cD E k) (l.take 0)) (fun k hk => by simp [behD]))
  have B1 := Lib.hid hb1
  clear hbe hb1 HC c5
  go_wp2_with fail
  go_loopw [23] (fun vi wr => ∃ (i : Nat) (sl : Nat → Value), i ≤ n ∧ vi = .int .i64 (i : Int) ∧ Hid (Beh wr W.heap.size gl ga nl sl (fun k => behD E (cD E k) (l.take i))) ∧ Hid (Below W.heap.size W wr)) (fun vi _ => n - (intOf vi).toNat)
  case atStart => exact ⟨0, sl, Nat.zero_le _, rfl, BE.out, B1.out⟩
  case round =>
    obtain ⟨i, sl1, hi, rfl, BEi, BWi⟩ := hrel
    clear BE B1
    by_cases hlt : i < n
    · have hil : i < l.length := by rw [HN.out]; exact hlt
      obtain ⟨ad, hA, hc1⟩ := (RdZ.below HR.out BWi.out) i hil
      subst hA
      have hs : l[i] < S := HIN.out _ (List.getElem_mem hil)
      have BN := Lib.hid (show ∀ k, behD E (cD E k) (l.take (i + 1)) = behD E (cD E k) (l.take i) ++ someB E (edgesD E l[i]) (edgesD E l[i]).length k from fun k => by
        rw [behD_next E _ l i hil]
        unfold someB
        rw [List.take_of_length_le (Nat.le_refl _)])
      have LB := Lib.hid (show ∀ k, (behD E (cD E k) (l.take i)).length ≤ 16777216 from fun k => by
        have h1 := behD_len E (cD E k) (l.take i)
        have h2 : (l.take i).length ≤ 2048 := by rw [List.length_take, HN.out]; omega
        have h3 := st.e2
        exact Nat.le_trans h1 (Nat.mul_le_mul h2 h3))
      generalize l[i] = s at *
      obtain ⟨fi, hmi, hfi⟩ := (H0.out.below PL.out BWi.out).mr
      have KI := Lib.hid hmi.kp
      have c4 := hmi.c4
      have cs := (st.edg wr KI.out s hs).1
      have HES := Lib.hid (show (edgesD E s).length ≤ 8192 from Nat.le_trans (edges_lenD E s) st.e2)
      have BE2 := Lib.hid (BEi.out.congr (bs' := fun k => behD E (cD E k) (l.take i) ++ someB E (edgesD E s) 0 k) (fun k hk => by simp [someB]))
      have HED := Lib.hid (show ∀ e ∈ edgesD E s, 0 ≤ e.to from fun e he => by
        unfold edgesD outsE at he
        simp only [List.mem_filter] at he
        exact (st.ed e he.1.1).2.2.1)
      generalize hes : edgesD E s = es at *
      have HEQ := Lib.hid hes
      obtain ⟨ne, hne⟩ : ∃ q, es.length = q := ⟨_, rfl⟩
      rw [hne] at cs
      have HNE := Lib.hid hne
      clear hil hmi hfi hne hes BEi
      go_wp2_with fail
      go_loopw [35] (fun vi wr => ∃ (j : Nat) (sl : Nat → Value), j ≤ ne ∧ vi = .int .i64 (j : Int) ∧ Hid (Beh wr W.heap.size gl ga nl sl (fun k => behD E (cD E k) (l.take i) ++ someB E es j k)) ∧ Hid (Below W.heap.size W wr)) (fun vi _ => ne - (intOf vi).toNat)
      case atStart => exact ⟨0, sl1, Nat.zero_le _, rfl, BE2.out, BWi.out⟩
      case round =>
        obtain ⟨j, sl2, hj, rfl, BEj, BWj⟩ := hrel
        clear BE2 BWi cs c4 hc1 KI
        by_cases hlj : j < ne
        · have hjl : j < es.length := by rw [HNE.out]; exact hlj
          obtain ⟨fj, hmj, hfj⟩ := (H0.out.below PL.out BWj.out).mr
          have hre := (st.edg wr hmj.kp s hs).2
          rw [HEQ.out] at hre
          obtain ⟨ad2, hA2, hce⟩ := hre j hjl
          have c5j := hmj.c5
          have SN := Lib.hid (show ∀ k, k < nl → someB E es (j + 1) k = someB E es j k ++ oneB E es[j] nl k from fun k hk => someB_next E es j hjl nl k hk)
          have LB2 := Lib.hid (show ∀ k, (someB E es j k).length ≤ 8192 from fun k => Nat.le_trans (someB_len E es j k) HES.out)
          have HTO := Lib.hid (HED.out _ (List.getElem_mem hjl))
          generalize es[j] = e at *
          have HCE := Lib.hid (show ∀ t u, [.int .i64 e.fr, .int .i64 e.to, .int .u64 (e.set.w0.toNat : Int), .int .u64 (e.set.w1.toNat : Int), .int .u64 (e.set.w2.toNat : Int), .int .u64 (e.set.w3.toNat : Int), .bool e.free][t]? = some u → wr.cell? ((ad2.add (j * 7)).add t) = some u from hce)
          have BE3 := Lib.hid (BEj.out.congr (bs' := fun k => (behD E (cD E k) (l.take i) ++ someB E es j k) ++ oneB E e 0 k) (fun k hk => by rw [oneB_zero, List.append_nil]))
          have hjb : j ≤ 8192 := by have := HES.out; have := HNE.out; omega
          rw [hA2]
          have bA := bl_alloc (Below.refl wr.heap.size wr) (.cells #[.int .i64 e.fr, .int .i64 e.to, .int .u64 (e.set.w0.toNat : Int), .int .u64 (e.set.w1.toNat : Int), .int .u64 (e.set.w2.toNat : Int), .int .u64 (e.set.w3.toNat : Int), .bool e.free] 53)
          have c5k := (bA.cell (World.block_lt_of_cell? wr _ c5j)).trans c5j
          have BE4 := Lib.hid (BE3.out.below bA)
          have B4 := Lib.hid (bl_trans BWj.out bA)
          have K9 := Lib.hid (heap_alloc_new wr (.cells #[.int .i64 e.fr, .int .i64 e.to, .int .u64 (e.set.w0.toNat : Int), .int .u64 (e.set.w1.toNat : Int), .int .u64 (e.set.w2.toNat : Int), .int .u64 (e.set.w3.toNat : Int), .bool e.free] 53))
          clear hjl hce hmj hfj BEj bA BE3 BWj
          go_upto_region 9 with (refine wpList_load_part 53 7 _ rfl rfl (ad2.add (j * 7)) rfl [.int .i64 e.fr, .int .i64 e.to, .int .u64 (e.set.w0.toNat : Int), .int .u64 (e.set.w1.toNat : Int), .int .u64 (e.set.w2.toNat : Int), .int .u64 (e.set.w3.toNat : Int), .bool e.free] (agg_edge _) (sz_edge _) rfl HCE.out ?_)
          generalize wr.alloc (.cells #[.int .i64 e.fr, .int .i64 e.to, .int .u64 (e.set.w0.toNat : Int), .int .u64 (e.set.w1.toNat : Int), .int .u64 (e.set.w2.toNat : Int), .int .u64 (e.set.w3.toNat : Int), .bool e.free] 53) = wA at *
          generalize wr.heap.size = b9 at *
          clear HCE c5j
          go_wp2_with fail
          go_loopw [44] (fun vi wr => ∃ (k : Nat) (sl : Nat → Value), k ≤ nl ∧ vi = .int .i64 (k : Int) ∧ Hid (Beh wr W.heap.size gl ga nl sl (fun q => (behD E (cD E q) (l.take i) ++ someB E es j q) ++ oneB E e k q)) ∧ Hid (wr.heap[b9]? = some (.cells #[.int .i64 e.fr, .int .i64 e.to, .int .u64 (e.set.w0.toNat : Int), .int .u64 (e.set.w1.toNat : Int), .int .u64 (e.set.w2.toNat : Int), .int .u64 (e.set.w3.toNat : Int), .bool e.free] 53 (0, 0))) ∧ Hid (Below W.heap.size W wr)) (fun vi _ => nl - (intOf vi).toNat)
          case atStart => exact ⟨0, sl2, Nat.zero_le _, rfl, BE4.out, K9.out, B4.out⟩
          case round =>
            obtain ⟨k, sl3, hk, rfl, BEk, KK, BWk⟩ := hrel
            clear BE4 K9 B4 c5k
            by_cases hlk : k < nl
            · have hkl : k < (leastsE E).length := by rw [HNL.out]; exact hlk
              obtain ⟨fk, hmk, hfk⟩ := (H0.out.below PL.out BWk.out).mr
              obtain ⟨ad3, hA3, hcb⟩ := hLb wr hmk.kp k hkl
              have HCD := Lib.hid (show (leastsE E)[k] = cD E k from by unfold cD; simp [List.getD, hkl])
              have hc9 := cD_lt E k
              rw [HCD.out] at hcb
              have HYES := Lib.hid (oneB_yes E e k)
              have HNO := Lib.hid (oneB_no E e k)
              have HBY := Lib.hid (show byE (cD E k) e = has e.set.f (cD E k) from rfl)
              generalize cD E k = ck at *
              subst hA3
              have hEs : ∀ t u, [Value.int .u64 (e.set.w0.toNat : Int), .int .u64 (e.set.w1.toNat : Int), .int .u64 (e.set.w2.toNat : Int), .int .u64 (e.set.w3.toNat : Int)][t]? = some u → wr.cell? ((⟨b9, 2, none⟩ : Addr).add t) = some u := fun t u hu => by
                rw [addr_mk, cell_of_row wr b9 _ _ _ _ KK.out]
                match t, hu with
                | 0, hu => exact hu
                | 1, hu => exact hu
                | 2, hu => exact hu
                | 3, hu => exact hu
              have HES2 := Lib.hid hEs
              clear hkl hmk hfk hEs HCD
              go_wp2_with (refine wpList_load_part 51 4 _ rfl rfl ⟨b9, 2, none⟩ rfl [.int .u64 (e.set.w0.toNat : Int), .int .u64 (e.set.w1.toNat : Int), .int .u64 (e.set.w2.toNat : Int), .int .u64 (e.set.w3.toNat : Int)] (by kernel_rfl) (by kernel_rfl) rfl HES2.out ?_)
              refine (has_any e.set.f ck hc9 wr).mono ?_
              rintro x w5 ⟨rfl, hb5⟩
              have BE5 := Lib.hid (BEk.out.below hb5)
              have K5 := Lib.hid ((hb5.block b9 (Array.getElem?_eq_some_iff.1 KK.out).1).trans KK.out)
              have B5 := Lib.hid (bl_trans BWk.out hb5)
              clear hb5 BEk KK BWk HES2 hcb
              rw [← HBY.out]
              obtain ⟨q, hq⟩ : ∃ q, byE ck e = q := ⟨_, rfl⟩
              rw [hq] at HYES HNO ⊢
              clear hq HBY
              cases q with
              | false =>
                have HN2 := Lib.hid (HNO.out rfl)
                clear HNO HYES
                go_wp2_with fail
                exact ⟨⟨k + 1, sl3, by omega, by go_num, BE5.out.congr (fun q hq => by rw [HN2.out q]), K5.out, B5.out⟩, by simp [intOf]; omega⟩
              | true =>
                have HY2 := Lib.hid (HYES.out rfl)
                clear HNO HYES
                go_wp2_with fail
                have hE1 : w5.cell? ⟨b9, 1, none⟩ = some (.int .i64 e.to) := cell_of_row w5 b9 1 _ _ _ K5.out
                refine wp_region_held_drew (S := fun wS => wS.cell? ⟨b9, 1, none⟩ = some (.int .i64 e.to)) (by kernel_rfl) hE1 (fun hHeld => ?_)
                have BE6 := Lib.hid (show Beh w5.drew W.heap.size gl ga nl sl3 _ from BE5.out.keep (fun _ _ _ => rfl))
                have K6 := Lib.hid (show w5.drew.heap[b9]? = some (.cells #[.int .i64 e.fr, .int .i64 e.to, .int .u64 (e.set.w0.toNat : Int), .int .u64 (e.set.w1.toNat : Int), .int .u64 (e.set.w2.toNat : Int), .int .u64 (e.set.w3.toNat : Int), .bool e.free] 53 (0, 0)) from K5.out)
                have B6 := Lib.hid (show Below W.heap.size W w5.drew from bl_drewN B5.out 1)
                have hto : e.to = ((e.tn : Nat) : Int) := by have := HTO.out; unfold Ed.tn; omega
                have HTN := Lib.hid hto
                clear hE1 BE5 K5 B5 hto
                generalize w5.drew = w6 at *
                try simp only [zzA, zzB, zzC, Act.put, zzD, zzE, zzF]
                refine wpAnyH_take (i := 0) (v := ?vza0) rfl (by kernel_rfl) (by kernel_rfl) (by kernel_rfl) (fun _ _ _ h => h) (Or.inl ⟨by rfl, ?yza0⟩) hHeld ?rza0
                case yza0 => (intro wS hSw; clear hSw; go_simp; try (with_reducible rfl))
                try simp only [zzA, zzB, zzC, Act.put, zzD, zzE, zzF]
                refine wpAnyH_take (i := 1) (v := ?vza1) rfl (by kernel_rfl) (by kernel_rfl) (by kernel_rfl) (fun _ _ _ h => h) (Or.inl ⟨by rfl, ?yza1⟩) hHeld ?rza1
                case yza1 => (intro wS hSw; clear hSw; go_simp; try (with_reducible rfl))
                try simp only [zzA, zzB, zzC, Act.put, zzD, zzE, zzF]
                refine wpAnyH_take (i := 2) (v := ?vza2) rfl (by kernel_rfl) (by kernel_rfl) (by kernel_rfl) (fun _ _ _ h => h) (Or.inl ⟨by rfl, ?yza2⟩) hHeld ?rza2
                case yza2 => (intro wS hSw; clear hSw; go_simp; try (with_reducible rfl))
                try simp only [zzA, zzB, zzC, Act.put, zzD, zzE, zzF]
                refine wpAnyH_take (i := 3) (v := ?vza3) rfl (by kernel_rfl) (by kernel_rfl) (by kernel_rfl) (fun _ _ _ h => h) (Or.inl ⟨by rfl, ?yza3⟩) hHeld ?rza3
                case yza3 => (intro wS hSw; clear hSw; go_simp; try (with_reducible rfl))
                try simp only [zzA, zzB, zzC, Act.put, zzD, zzE, zzF]
                refine wpAnyH_take (i := 4) (v := ?vza4) rfl (by kernel_rfl) (by kernel_rfl) (by kernel_rfl) (fun _ _ _ h => h) (Or.inl ⟨by rfl, ?yza4⟩) hHeld ?rza4
                case yza4 => (intro wS hSw; clear hSw; go_simp; try (with_reducible rfl))
                try simp only [zzA, zzB, zzC, Act.put, zzD, zzE, zzF]
                refine wpAnyH_take (i := 6) (v := ?vza6) rfl (by kernel_rfl) (by kernel_rfl) (by kernel_rfl) (fun _ _ _ h => h) (Or.inl ⟨by rfl, ?yza6⟩) hHeld ?rza6
                case yza6 => (intro wS hSw; clear hSw; go_simp; try (with_reducible rfl))
                try simp only [zzA, zzB, zzC, Act.put, zzD, zzE, zzF]
                refine wpAnyH_take (i := 7) (v := ?vza7) rfl (by kernel_rfl) (by kernel_rfl) (by kernel_rfl) (fun _ _ _ h => h) (Or.inl ⟨by rfl, ?yza7⟩) hHeld ?rza7
                case yza7 => (intro wS hSw; have q := hSw; clear hSw; go_simp; try (with_reducible rfl))
                try simp only [zzA, zzB, zzC, Act.put, zzD, zzE, zzF]
                refine wpAnyH_ready (rs := [5, 8]) (by kernel_rfl) (by simp) (AllReadyH.cons rfl (fun K hK => ?_) (AllReadyH.cons rfl (fun K hK => ?_) AllReadyH.nil))
                · skip
                  have hcl := (BE6.out.row).cell hlk
                  go_simp
                  refine hK.out _ _ hHeld (fun hHeld => ?_)
                  clear hK K hcl
                  try simp only [zzA, zzB, zzC, Act.put, zzD, zzE, zzF]
                  refine wpAnyH_ready (rs := [8]) (by kernel_rfl) (by simp) (AllReadyH.cons rfl (fun K hK => ?_) AllReadyH.nil)
                  have bL := bl_alloc (Below.refl w6.heap.size w6) (.cells #[.int .i64 e.to] 3)
                  have kL := cell_of_row _ w6.heap.size 0 _ _ _ (heap_alloc_new w6 (.cells #[.int .i64 e.to] 3))
                  have BE7 := Lib.hid (BE6.out.below bL)
                  have K7 := Lib.hid ((bL.block b9 (Array.getElem?_eq_some_iff.1 K6.out).1).trans K6.out)
                  have B7 := Lib.hid (bl_trans B6.out bL)
                  have hS1 := (bL.cell (World.block_lt_of_cell? w6 _ hHeld)).trans hHeld
                  go_simp
                  refine hK.out _ _ hS1 (fun hHeld => ?_)
                  clear hK K bL BE6 K6 B6 hS1
                  generalize w6.alloc (.cells #[.int .i64 e.to] 3) = w7 at *
                  generalize w6.heap.size = pL at *
                  have KL := Lib.hid (show w7.cell? ⟨pL, 0, none⟩ = some (.int .i64 ((e.tn : Nat) : Int)) from by rw [← HTN.out]; exact kL)
                  clear kL
                  try simp only [zzA, zzB, zzC, Act.put, zzD, zzE, zzF]
                  refine wpAnyH_ready (rs := [9]) (by kernel_rfl) (by simp) (AllReadyH.cons rfl (fun K hK => ?_) AllReadyH.nil)
                  rw [if_pos (by rfl)]
                  have hlb := LB.out k
                  have hlb2 := LB2.out k
                  have hlb3 := oneB_len E e k k
                  obtain ⟨A8, n8, c8v, w8, hrun, hc8, hz8, ⟨r8, hg8, hr8⟩, hbe8⟩ := BE7.out.put2 B7.out.size 23 hlk e.tn pL KL.out (by simp only [List.length_append]; omega)
                  refine wp_append_of_run _ _ 23 rfl (sl3 k) (.slice (some ⟨pL, 0, none⟩) 1 1) rfl rfl hrun ?_
                  have hne9 : b9 ≠ gl := by
                    intro e5
                    have h1 := K7.out
                    have h2 : w7.heap[gl]? = some (.cells (rowV nl sl3) 23 (0, 0)) := BE7.out.row
                    rw [e5, h2] at h1
                    injection h1 with h1
                    injection h1 with _ h1 _
                    exact absurd h1 (by decide)
                  have hb9r : some b9 ≠ r8 := fun e5 => (by
                    obtain ⟨_, _, cs5, hc5⟩ := hr8 b9 e5.symm
                    have h1 := K7.out
                    rw [hc5] at h1
                    injection h1 with h1
                    injection h1 with _ h1 _
                    exact absurd h1 (by decide))
                  have k8 := (hg8.block b9 (Array.getElem?_eq_some_iff.1 K7.out).1 hb9r).trans K7.out
                  have hS1 : w8.cell? ⟨b9, 1, none⟩ = some (.int .i64 e.to) := cell_of_row w8 b9 1 _ _ _ k8
                  have b8 := bl_grown B7.out hg8 (fun i e5 => (hr8 i e5).1)
                  refine hK.out _ _ hS1 (fun hHeld => ?_)
                  clear hK K hS1 hrun
                  try simp only [zzA, zzB, zzC, Act.put, zzD, zzE, zzF]
                  refine wpAnyH_take (i := 10) (v := ?vzd10) rfl (by kernel_rfl) (by kernel_rfl) (by kernel_rfl) (fun _ _ _ h => h) (Or.inl ⟨by rfl, ?yzd10⟩) hHeld ?rzd10
                  case yzd10 => (intro wS hSw; clear hSw; go_simp; try (with_reducible rfl))
                  try simp only [zzA, zzB, zzC, Act.put, zzD, zzE, zzF]
                  refine wpAnyH_ready (rs := [11]) (by kernel_rfl) (by simp) (AllReadyH.cons rfl (fun K hK => ?_) AllReadyH.nil)
                  go_simp
                  have hS1 : (w8.setCell ⟨gl, k, none⟩ (.slice A8 n8 c8v)).cell? ⟨b9, 1, none⟩ = some (.int .i64 e.to) := cell_keep (p := ⟨b9, 1, none⟩) (set_keep w8 gl k (.slice A8 n8 c8v) b9 hne9) hHeld
                  refine hK.out _ _ hS1 (fun hHeld => ?_)
                  clear hK K hS1
                  try simp only [zzA, zzB, zzC, Act.put, zzD, zzE, zzF]
                  refine wpAnyH_done (by kernel_rfl) ?_ _
                  go_wp2_with fail
                  exact ⟨⟨k + 1, _, by omega, by go_num, hbe8.congr (fun q hq => by
                    rw [HY2.out q]
                    by_cases e5 : q = k
                    · subst e5
                      have hz : oneB E e q q = [] := by unfold oneB; rw [if_neg (by omega)]
                      simp [hz]
                    · simp [e5]), (set_keep w8 gl k (.slice A8 n8 c8v) b9 hne9).trans k8, bl_grown b8 (grown_set w8 gl k (.slice A8 n8 c8v)) (fun i e5 => by cases e5; exact BE7.out.lg)⟩, by simp [intOf]; omega⟩
                · skip
                  have bL := bl_alloc (Below.refl w6.heap.size w6) (.cells #[.int .i64 e.to] 3)
                  have kL := cell_of_row _ w6.heap.size 0 _ _ _ (heap_alloc_new w6 (.cells #[.int .i64 e.to] 3))
                  have BE7 := Lib.hid (BE6.out.below bL)
                  have K7 := Lib.hid ((bL.block b9 (Array.getElem?_eq_some_iff.1 K6.out).1).trans K6.out)
                  have B7 := Lib.hid (bl_trans B6.out bL)
                  have hS1 := (bL.cell (World.block_lt_of_cell? w6 _ hHeld)).trans hHeld
                  go_simp
                  refine hK.out _ _ hS1 (fun hHeld => ?_)
                  clear hK K bL BE6 K6 B6 hS1
                  generalize w6.alloc (.cells #[.int .i64 e.to] 3) = w7 at *
                  generalize w6.heap.size = pL at *
                  have KL := Lib.hid (show w7.cell? ⟨pL, 0, none⟩ = some (.int .i64 ((e.tn : Nat) : Int)) from by rw [← HTN.out]; exact kL)
                  clear kL
                  try simp only [zzA, zzB, zzC, Act.put, zzD, zzE, zzF]
                  refine wpAnyH_ready (rs := [5]) (by kernel_rfl) (by simp) (AllReadyH.cons rfl (fun K hK => ?_) AllReadyH.nil)
                  have hcl := (BE7.out.row).cell hlk
                  go_simp
                  refine hK.out _ _ hHeld (fun hHeld => ?_)
                  clear hK K hcl
                  try simp only [zzA, zzB, zzC, Act.put, zzD, zzE, zzF]
                  refine wpAnyH_ready (rs := [9]) (by kernel_rfl) (by simp) (AllReadyH.cons rfl (fun K hK => ?_) AllReadyH.nil)
                  rw [if_pos (by rfl)]
                  have hlb := LB.out k
                  have hlb2 := LB2.out k
                  have hlb3 := oneB_len E e k k
                  obtain ⟨A8, n8, c8v, w8, hrun, hc8, hz8, ⟨r8, hg8, hr8⟩, hbe8⟩ := BE7.out.put2 B7.out.size 23 hlk e.tn pL KL.out (by simp only [List.length_append]; omega)
                  refine wp_append_of_run _ _ 23 rfl (sl3 k) (.slice (some ⟨pL, 0, none⟩) 1 1) rfl rfl hrun ?_
                  have hne9 : b9 ≠ gl := by
                    intro e5
                    have h1 := K7.out
                    have h2 : w7.heap[gl]? = some (.cells (rowV nl sl3) 23 (0, 0)) := BE7.out.row
                    rw [e5, h2] at h1
                    injection h1 with h1
                    injection h1 with _ h1 _
                    exact absurd h1 (by decide)
                  have hb9r : some b9 ≠ r8 := fun e5 => (by
                    obtain ⟨_, _, cs5, hc5⟩ := hr8 b9 e5.symm
                    have h1 := K7.out
                    rw [hc5] at h1
                    injection h1 with h1
                    injection h1 with _ h1 _
                    exact absurd h1 (by decide))
                  have k8 := (hg8.block b9 (Array.getElem?_eq_some_iff.1 K7.out).1 hb9r).trans K7.out
                  have hS1 : w8.cell? ⟨b9, 1, none⟩ = some (.int .i64 e.to) := cell_of_row w8 b9 1 _ _ _ k8
                  have b8 := bl_grown B7.out hg8 (fun i e5 => (hr8 i e5).1)
                  refine hK.out _ _ hS1 (fun hHeld => ?_)
                  clear hK K hS1 hrun
                  try simp only [zzA, zzB, zzC, Act.put, zzD, zzE, zzF]
                  refine wpAnyH_take (i := 10) (v := ?vze10) rfl (by kernel_rfl) (by kernel_rfl) (by kernel_rfl) (fun _ _ _ h => h) (Or.inl ⟨by rfl, ?yze10⟩) hHeld ?rze10
                  case yze10 => (intro wS hSw; clear hSw; go_simp; try (with_reducible rfl))
                  try simp only [zzA, zzB, zzC, Act.put, zzD, zzE, zzF]
                  refine wpAnyH_ready (rs := [11]) (by kernel_rfl) (by simp) (AllReadyH.cons rfl (fun K hK => ?_) AllReadyH.nil)
                  go_simp
                  have hS1 : (w8.setCell ⟨gl, k, none⟩ (.slice A8 n8 c8v)).cell? ⟨b9, 1, none⟩ = some (.int .i64 e.to) := cell_keep (p := ⟨b9, 1, none⟩) (set_keep w8 gl k (.slice A8 n8 c8v) b9 hne9) hHeld
                  refine hK.out _ _ hS1 (fun hHeld => ?_)
                  clear hK K hS1
                  try simp only [zzA, zzB, zzC, Act.put, zzD, zzE, zzF]
                  refine wpAnyH_done (by kernel_rfl) ?_ _
                  go_wp2_with fail
                  exact ⟨⟨k + 1, _, by omega, by go_num, hbe8.congr (fun q hq => by
                    rw [HY2.out q]
                    by_cases e5 : q = k
                    · subst e5
                      have hz : oneB E e q q = [] := by unfold oneB; rw [if_neg (by omega)]
                      simp [hz]
                    · simp [e5]), (set_keep w8 gl k (.slice A8 n8 c8v) b9 hne9).trans k8, bl_grown b8 (grown_set w8 gl k (.slice A8 n8 c8v)) (fun i e5 => by cases e5; exact BE7.out.lg)⟩, by simp [intOf]; omega⟩
            · obtain rfl : k = nl := by omega
              go_wp2_with fail
              exact ⟨⟨j + 1, sl3, by omega, by go_num, BEk.out.congr (fun q hq => by rw [SN.out q hq, List.append_assoc]), BWk.out⟩, by simp [intOf]; omega⟩
        · obtain rfl : j = ne := by omega
          go_wp2_with fail
          refine ⟨⟨i + 1, sl2, by omega, by go_num, BEj.out.congr (fun q hq => by rw [BN.out q, HNE.out]), BWj.out⟩, by simp [intOf]; omega⟩
    · obtain rfl : i = n := by omega
      obtain ⟨wz, hwz⟩ : ∃ x, x = wr := ⟨_, rfl⟩
      subst hwz
      rw [show l.take i = l from List.take_of_length_le (by rw [HN.out]; exact Nat.le_refl _)] at BEi
      have hmk := make_ints nl (nl : Int) rfl (by omega) wz
      have MW := Lib.hid (H0.out.below PL.out BWi.out)
      have bA := bl_alloc (Below.refl wz.heap.size wz) (.cells (rowN nl (fun _ => 0)) 3)
      have M0 := Lib.hid ((MW.out.ex (ex1 := fun i => i = wz.heap.size) (fun i hi e => by omega)).below PL.out bA)
      have Q0 := Lib.hid (show HV (wz.alloc (.cells (rowN nl (fun _ => 0)) 3)) wz.heap.size 3 nl (fun j => .int .i64 (if j < 0 then valD (fkD S E l F (j + 1)) (toD S E (cD E j) l) else 0)) from by
        refine (heap_alloc_new wz _).trans ?_
        congr 2
        refine Array.ext_getElem? fun j => ?_
        by_cases hj : j < nl
        · rw [rowV_get _ _ hj, rowN_get _ _ _ hj, if_neg (by omega)]
          rfl
        · rw [Array.getElem?_eq_none (by rw [rowN_size]; omega), Array.getElem?_eq_none (by rw [rowV_size]; omega)])
      have KP0 := Lib.hid (show ∀ i, W.heap.size ≤ i → i < wz.heap.size → (wz.alloc (.cells (rowN nl (fun _ => 0)) 3)).heap[i]? = wz.heap[i]? from fun i _ hi => bA.block i hi)
      have SZ0 := Lib.hid (show wz.heap.size < (wz.alloc (.cells (rowN nl (fun _ => 0)) 3)).heap.size from by simp)
      have SZW := Lib.hid (show W.heap.size ≤ wz.heap.size from BWi.out.size)
      have HVF := Lib.hid H0.out.fo.own
      have HVR := Lib.hid (OwnZ.own H0.out.ru)
      have HVT := Lib.hid H0.out.nx.own
      have HK1 := Lib.hid KW.out.size
      have F0 := Lib.hid (show MkW W0 W1 n1 g gm gr S cl X (fun i => i = wz.heap.size) ⟨vT, vR, .slice Ax nx cx, .slice (some ⟨gf, 0, none⟩) S S, .slice (some ⟨ge, 0, none⟩) S S, .slice Al nl cls, vF⟩ (rd + 0) (fkD S E l F 0) (fkD S E l F 0) (fkD S E l F 0) T (wz.alloc (.cells (rowN nl (fun _ => 0)) 3)) from by rw [fk_zero, Nat.add_zero]; exact M0.out)
      clear bA M0 MW
      go_upto_region 18 with fail
      clear hmk
      generalize wz.alloc (.cells (rowN nl (fun _ => 0)) 3) = w2 at *
      go_loopw [72] (fun vi w4 => ∃ (k : Nat) (vF' vR' : Value), k ≤ nl ∧ vi = .int .i64 (k : Int) ∧ Hid (MkW W0 W1 n1 g gm gr S cl X (fun i => i = wz.heap.size) ⟨vT, vR', .slice Ax nx cx, .slice (some ⟨gf, 0, none⟩) S S, .slice (some ⟨ge, 0, none⟩) S S, .slice Al nl cls, vF'⟩ (rd + k) (fkD S E l F k) (fkD S E l F k) (fkD S E l F k) T w4) ∧
        Hid (HV w4 wz.heap.size 3 nl (fun j => .int .i64 (if j < k then valD (fkD S E l F (j + 1)) (toD S E (cD E j) l) else 0))) ∧ Hid (∀ i, W.heap.size ≤ i → i < wz.heap.size → w4.heap[i]? = wz.heap[i]?) ∧ Hid (wz.heap.size < w4.heap.size) ∧
        Hid (∀ i, vF'.ownBlock = some i → vF.ownBlock = some i ∨ wz.heap.size < i) ∧ Hid (∀ i, vR'.ownBlock = some i → vR.ownBlock = some i ∨ wz.heap.size < i)) (fun vi _ => nl - (intOf vi).toNat)
      case atStart => exact ⟨0, vF, vR, Nat.zero_le _, rfl, F0.out, Q0.out, KP0.out, SZ0.out, fun i e => Or.inl e, fun i e => Or.inl e⟩
      case round =>
        obtain ⟨k, vF', vR', hk, rfl, MK, HQ4, KP, SZ, NF, NR⟩ := hrel
        clear F0 Q0 KP0 SZ0
        by_cases hlk : k < nl
        · obtain ⟨fk, hmk, hfk⟩ := MK.out.mr
          have HBW := Lib.hid (BEi.out.keep KP.out)
          obtain ⟨Ak, ck, ek, hck, hrz⟩ := (HBW.out.each k hlk).read
          have hcl := (HBW.out.row).cell hlk
          rw [ek] at hcl
          have hkl : k < (leastsE E).length := by rw [HNL.out]; exact hlk
          have HCT := Lib.hid (show closeL S E (behD E (cD E k) l) = toD S E (cD E k) l from to_behind st.ed st.pl.s2 (cD_lt E k) l)
          have HFN := Lib.hid (show fkD S E l F (k + 1) = putD (fkD S E l F k) (toD S E (cD E k) l) from by
            rw [fk_next S E l F k hkl]
            unfold cD
            simp [List.getD, hkl])
          have HFL := Lib.hid (show (fkD S E l F k).length ≤ 2000 from by have := fk_len S E l F k; omega)
          have hbl : (behD E (cD E k) l).length ≤ 16777216 := by
            have h1 := behD_len E (cD E k) l
            have h2 := st.e2
            rw [HN.out] at h1
            exact Nat.le_trans h1 (Nat.mul_le_mul hn2 h2)
          obtain ⟨nb, hnb⟩ : ∃ q, (behD E (cD E k) l).length = q := ⟨_, rfl⟩
          rw [hnb] at hcl hbl hck
          have HCON := Lib.hid (state_any (cl := cl) (vT := vT) (vR := vR') (ved := .slice (some ⟨ge, 0, none⟩) S S) (vls := .slice Al nl cls) (vF := vF') st rfl Ax nx cx rfl hx hx2 hX (rd + k) (by omega) (fkD S E l F k) T HFL.out (good_fk hgood k) Ak nb ck (behD E (cD E k) l) hnb (by omega) (behD_in st.ed _ _) wr MK.out (fun W' hf => by
            have hb2 := HBW.out.keep (W' := W') (fun i h1 h2 => hf.keep i h2 (by have := PL.out.ug; have := HK1.out; omega) (by have := PL.out.ur; have := HK1.out; omega) (own_none i))
            obtain ⟨Ak', ck', ek', _, hrz'⟩ := (hb2.each k hlk).read
            rw [ek] at ek'
            injection ek' with e1 e2 e3
            subst e1
            exact hrz') (fun i e => by have := SZ.out; omega))
          rw [HCT.out] at HCON
          have hqw := HQ4.out.cell hlk
          clear hmk hfk hrz ek hnb hck hkl
          go_wp2_with fail
          refine HCON.out.mono ?_
          rintro e w5 ⟨vF2, vR2, rfl, mk5, fr5, nf5, nr5⟩
          have hvf : ∀ i, vF'.ownBlock = some i → i < W.heap.size ∨ wz.heap.size < i := fun i e => by
            rcases NF.out i e with h | h
            · exact Or.inl (HVF.out i h).2
            · exact Or.inr h
          have hvr : ∀ i, vR'.ownBlock = some i → i < W.heap.size ∨ wz.heap.size < i := fun i e => by
            rcases NR.out i e with h | h
            · exact Or.inl (HVR.out i h).2
            · exact Or.inr h
          have hpl := PL.out
          have kp5 : ∀ i, W.heap.size ≤ i → i ≤ wz.heap.size → w5.heap[i]? = wr.heap[i]? := fun i h1 h2 => by
            have h3 := HK1.out
            have h4 := SZ.out
            have h5 := hpl.ug
            have h6 := hpl.um
            have h7 := hpl.ur
            exact fr5.keep i (by omega) (by omega) (by omega) (by omega) (fun e => by rcases hvf i e with h | h <;> omega) (fun e => by rcases hvr i e with h | h <;> omega)
          have q5 := HQ4.out.keep (kp5 wz.heap.size (by have := SZW.out; omega) (Nat.le_refl _))
          have hq5c := q5.cell hlk
          have hq5f := q5.free k
          rw [← HFN.out] at mk5
          have hz : valD (putD (fkD S E l F k) (toD S E (cD E k) l)) (toD S E (cD E k) l) = valD (fkD S E l F (k + 1)) (toD S E (cD E k) l) := by rw [HFN.out]
          rw [hz]
          generalize hzz : valD (fkD S E l F (k + 1)) (toD S E (cD E k) l) = z at *
          have HZ := Lib.hid hzz
          have hg5 := grown_set w5 wz.heap.size k (.int .i64 z)
          have M5 := Lib.hid mk5
          have Q5 := Lib.hid q5
          have K5 := Lib.hid kp5
          have N5 := Lib.hid nf5
          have N6 := Lib.hid nr5
          have S5 := Lib.hid fr5.size
          clear mk5 q5 kp5 nf5 nr5 fr5 hz hzz hqw HCON hvf hvr hcl
          go_wp2_with fail
          refine ⟨⟨k + 1, vF2, vR2, by omega, by go_num, ?_, ?_, fun i h1 h2 => (set_keep w5 wz.heap.size k (.int .i64 z) i (by omega)).trans ((K5.out i h1 (by omega)).trans (KP.out i h1 h2)), ?_, fun i e => ?_, fun i e => ?_⟩, by simp [intOf]; omega⟩
          · have hvf2 : vF2.ownBlock ≠ some wz.heap.size := fun e => by
              rcases N5.out _ e with h | h
              · rcases NF.out _ h with h2 | h2
                · have := (HVF.out _ h2).2; have := SZW.out; omega
                · omega
              · have := SZ.out; omega
            have hvr2 : vR2.ownBlock ≠ some wz.heap.size := fun e => by
              rcases N6.out _ e with h | h
              · rcases NR.out _ h with h2 | h2
                · have := (HVR.out _ h2).2; have := SZW.out; omega
                · omega
              · have := SZ.out; omega
            exact M5.out.other PL.out (by have := HK1.out; have := SZW.out; omega) rfl hvf2 hvr2 (fun e => by have := (HVT.out _ e).2; have := SZW.out; omega)
          · refine (Q5.out.put k (.int .i64 z)).trans ?_
            congr 2
            refine rowV_congr nl fun j hj => ?_
            by_cases e : j = k
            · subst e
              rw [if_pos rfl, if_pos (Nat.lt_succ_self j), HZ.out]
            · rw [if_neg e]
              by_cases hjk : j < k
              · rw [if_pos hjk, if_pos (by omega)]
              · rw [if_neg hjk, if_neg (by omega)]
          · have h1 := S5.out
            have h2 := SZ.out
            have h3 := hg5.size
            exact (by omega : wz.heap.size < (w5.setCell ⟨wz.heap.size, k, none⟩ (.int .i64 z)).heap.size)
          · rcases N5.out i e with h | h
            · exact NF.out i h
            · exact Or.inr (by have := SZ.out; omega)
          · rcases N6.out i e with h | h
            · exact NR.out i h
            · exact Or.inr (by have := SZ.out; omega)
        · obtain rfl : k = nl := by omega
          go_wp2_with fail
          refine post_is HQ ⟨vF', vR', wz.heap.size, k, rfl, by unfold nmD; rw [List.length_map]; exact HNL.out, ?_, SZW.out, ⟨_, HQ4.out⟩, fun e => ?_, ?_⟩
          · intro j hj
            unfold nmD at hj
            rw [List.length_map, HNL.out] at hj
            refine ⟨_, rfl, ?_⟩
            rw [addr_mk, Nat.zero_add, HQ4.out.cell hj, if_pos hj]
            congr 2
            have hjl : j < (leastsE E).length := by rw [HNL.out]; exact hj
            unfold nmD
            rw [List.getElem_map]
            have hc : (leastsE E)[j] = cD E j := by unfold cD; simp [List.getD, hjl]
            rw [hc]
            have hfn : fkD S E l F (j + 1) = putD (fkD S E l F j) (toD S E (cD E j) l) := by rw [fk_next S E l F j hjl, hc]
            refine (val_pre (F := fkD S E l F (j + 1)) (G := rowD S E l F (leastsE E)) (fk_pre S E l F (j + 1)) ?_).symm
            by_cases h0 : toD S E (cD E j) l = []
            · exact Or.inl h0
            · right
              rw [hfn]
              exact put_mem h0
          · rcases NR.out _ e with h | h
            · have := (HVR.out _ h).2
              have := SZW.out
              omega
            · omega
          · have h := MK.out
            rw [show fkD S E l F k = rowD S E l F (leastsE E) from by rw [← HNL.out]; exact fk_all S E l F] at h
            exact h.ex (fun i _ e => e.elim)

end Go.Proofs.YtcgfogdfcdndgaaGreatDoor
