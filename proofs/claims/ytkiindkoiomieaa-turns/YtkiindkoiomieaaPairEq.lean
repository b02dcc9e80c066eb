/-
  P4: pairs that are the same; slices.Compact of pairs.
-/
import Derived.Test.YtkiindkoiomieaaPairs
import Derived.Laws.StructEq
import Derived.ChangeKeysEq
import Derived.Lib.SlicesCompact
import Derived.Lib.SliceRun
import Derived.Deep.LoopGhost
namespace Go.Proofs.Ytkiindkoiomieaa
open Go.RowKit Go.Lib Go.Sort

theorem Try.info3 : (Try.prog.info? 3).map (fun i => (i.zero, i.size, i.bytes)) = some (some (.int .i64 0), 1, 8) := by kernel_rfl
theorem Try.cells3 : Try.prog.cellsOf 3 = 1 := by kernel_rfl

set_option maxRecDepth 100000 in
theorem eqIn_run (a b c d : Int) (w : World) : (Op.equalIn 10000 78 (.agg #[.int .i64 a, .int .i64 b]) (.agg #[.int .i64 c, .int .i64 d])).run Try.prog w = .ok (a == c && b == d) w := by
  obtain ⟨i0, hi, hz0, hz1, hz2⟩ := info_parts Try.info3
  rw [show (10000 : Nat) = 9999 + 1 from rfl, run_equalIn_array w 9999 _ _ Try.underlying78 hi, Try.cells3, show List.range 2 = [0, 1] from rfl]
  have u3 := Try.underlying3
  have a3 := Try.isAgg3
  have z3 := Try.sizeOf3
  rw [show (9999 : Nat) = 9998 + 1 from rfl]
  simp only [Op.eqItems, Sem.run_bind]
  go_simp
  by_cases h1 : a = c <;> by_cases h2 : b = d <;> simp [h1, h2]

theorem eqP_run (a b c d : Int) (w : World) : Sem.run Try.prog (binOp .eql 78 (.agg #[.int .i64 a, .int .i64 b]) (.agg #[.int .i64 c, .int .i64 d])) w = .ok (.bool (a == c && b == d)) w := by
  rw [run_eql_struct, eqIn_run]
  rfl
theorem neP_run (a b c d : Int) (w : World) : Sem.run Try.prog (binOp .neq 78 (.agg #[.int .i64 a, .int .i64 b]) (.agg #[.int .i64 c, .int .i64 d])) w = .ok (.bool (!(a == c && b == d))) w := by
  rw [run_neq_struct, eqIn_run]
  rfl
theorem gdP_run (op : BinOp) (x y : Operand) (xs ys : Array Value) (w : World) : Sem.run Try.prog (eqGuard op 78 x y (.agg xs) (.agg ys)) w = .ok () w := run_eqGuard_agg w op _ x y xs ys (by kernel_rfl)

/-- A row of pairs lies in a block. -/
def Lies (w : World) (g : Nat) (d : Array (Int × Int)) : Prop :=
  ∃ cur, w.heap[g]? = some (.cells cur 78 (0, 0)) ∧ ∀ j, j < d.size → cur[j * 2]? = some (.int .i64 d[j]!.1) ∧ cur[j * 2 + 1]? = some (.int .i64 d[j]!.2)

theorem Lies.cell {w : World} {g : Nat} {d : Array (Int × Int)} (h : Lies w g d) {j : Nat} (hj : j < d.size) : w.cell? ⟨g, j * 2, none⟩ = some (.int .i64 d[j]!.1) ∧ w.cell? ⟨g, j * 2 + 1, none⟩ = some (.int .i64 d[j]!.2) := by
  obtain ⟨cur, h1, h2⟩ := h
  exact ⟨cell_here h1 (h2 j hj).1, cell_here h1 (h2 j hj).2⟩

theorem Lies.frozen {w : World} {g : Nat} {d : Array (Int × Int)} (h : Lies w g d) (k : Nat) : w.frozen? ⟨g, k, none⟩ = false := by
  obtain ⟨cur, h1, _⟩ := h
  exact frozen_of_row w g k _ _ h1

theorem Lies.lt {w : World} {g : Nat} {d : Array (Int × Int)} (h : Lies w g d) : g < w.heap.size := by
  obtain ⟨cur, h1, _⟩ := h
  exact heap_lt0 h1

theorem Lies.kept {w w' : World} {g : Nat} {d : Array (Int × Int)} (h : Lies w g d) (hg : w'.heap[g]? = w.heap[g]?) : Lies w' g d := by
  obtain ⟨cur, h1, h2⟩ := h
  exact ⟨cur, hg.trans h1, h2⟩

theorem Lies.set {w : World} {g : Nat} {d : Array (Int × Int)} (h : Lies w g d) {i : Nat} (hi : i < d.size) (a b : Int) :
    Lies ((w.setCell ⟨g, i * 2, none⟩ (.int .i64 a)).setCell ⟨g, i * 2 + 1, none⟩ (.int .i64 b)) g (d.setIfInBounds i (a, b)) := by
  obtain ⟨cur, h1, h2⟩ := h
  have e1 := heap_setCell_same w g (i * 2) cur _ (.int .i64 a) h1
  have e2 := heap_setCell_same _ g (i * 2 + 1) _ _ (.int .i64 b) e1
  refine ⟨_, e2, fun j hj => ?_⟩
  rw [Array.size_setIfInBounds] at hj
  have hb : i * 2 < cur.size ∧ i * 2 + 1 < cur.size := ⟨(Array.getElem?_eq_some_iff.1 (h2 i hi).1).1, (Array.getElem?_eq_some_iff.1 (h2 i hi).2).1⟩
  by_cases hji : j = i
  · subst hji
    rw [getElem!_set_same d j _ hj]
    constructor
    · rw [Array.getElem?_setIfInBounds, if_neg (by omega), Array.getElem?_setIfInBounds, if_pos rfl, if_pos hb.1]
    · rw [Array.getElem?_setIfInBounds, if_pos rfl, if_pos (by rw [Array.size_setIfInBounds]; exact hb.2)]
  · rw [getElem!_set_other d i j _ hji]
    constructor
    · rw [Array.getElem?_setIfInBounds, if_neg (by omega), Array.getElem?_setIfInBounds, if_neg (by omega)]
      exact (h2 j hj).1
    · rw [Array.getElem?_setIfInBounds, if_neg (by omega), Array.getElem?_setIfInBounds, if_neg (by omega)]
      exact (h2 j hj).2

theorem setCells_heap (g : Nat) (t : TypeId) : ∀ (vs : List Value) (o : Nat) (w : World) (cur : Array Value), w.heap[g]? = some (.cells cur t (0, 0)) →
    ∃ cur', (w.setCells g o vs).heap[g]? = some (.cells cur' t (0, 0)) ∧ ∀ i, i < o → cur'[i]? = cur[i]?
  | [], _, _, cur, h => ⟨cur, h, fun _ _ => rfl⟩
  | v :: vs, o, w, cur, h => by
    obtain ⟨cur', h1, h2⟩ := setCells_heap g t vs (o + 1) (w.setCell ⟨g, o, none⟩ v) _ (heap_setCell_same w g o cur t v h)
    refine ⟨cur', h1, fun i hi => ?_⟩
    rw [h2 i (by omega), Array.getElem?_setIfInBounds, if_neg (by omega)]

theorem grown_setCell (w : World) (g o : Nat) (v : Value) : w.grownBy (w.setCell ⟨g, o, none⟩ v) (some g) := by
  refine ⟨rfl, rfl, rfl, by simp, fun k hk hne => ?_⟩
  exact heap_setCell_other _ _ _ _ (fun e => hne (by rw [e]))

theorem grown_trans {a b c : World} {row : Option Nat} (h : a.grownBy b row) (h' : b.grownBy c row) : a.grownBy c row :=
  ⟨h'.os.trans h.os, h'.tape.trans h.tape, h'.output.trans h.output, Nat.le_trans h.size h'.size, fun k hk hne => (h'.block k (Nat.lt_of_lt_of_le hk h.size) hne).trans (h.block k hk hne)⟩

theorem grown_setCells (g : Nat) : ∀ (vs : List Value) (o : Nat) (w : World), w.grownBy (w.setCells g o vs) (some g)
  | [], _, _ => ⟨rfl, rfl, rfl, Nat.le_refl _, fun _ _ _ => rfl⟩
  | v :: vs, o, w => grown_trans (grown_setCell w g o v) (grown_setCells g vs (o + 1) _)

theorem Lies.clear {w : World} {g k : Nat} {d e : Array (Int × Int)} (h : Lies w g d) (vs : List Value) (hk : k ≤ d.size) (he : e.size = k) (hl : ∀ j, j < k → e[j]! = d[j]!) : Lies (w.setCells g (k * 2) vs) g e := by
  obtain ⟨cur, h1, h2⟩ := h
  obtain ⟨cur', h3, h4⟩ := setCells_heap g _ vs (k * 2) w cur h1
  refine ⟨cur', h3, fun j hj => ?_⟩
  rw [h4 _ (by omega), h4 _ (by omega), hl j (by omega)]
  exact h2 j (by omega)

theorem run_clear_pairs (w : World) (ty : TypeId) (g k n c : Nat) (hn : 0 < n) (hc : ∀ j, j < n * 2 → (w.cell? ⟨g, k + j, none⟩).isSome = true) (hf : ∀ j, w.frozen? ⟨g, j, none⟩ = false) :
    ∃ vs, (Builtin.clear_ #[76] ty #[.slice (some ⟨g, k, none⟩) n c]).run Try.prog w = .ok (.tuple #[]) (w.setCells g k vs) := by
  have hz := Try.zeroValue78
  refine ⟨(Builtin.zeroCells #[.int .i64 0, .int .i64 0] n).toList, ?_⟩
  have hlen : (Builtin.zeroCells #[.int .i64 0, .int .i64 0] n).toList.length = n * 2 := by simp [Builtin.zeroCells]
  have hst := run_storeCells_cells (P := Try.prog) g k (Builtin.zeroCells #[.int .i64 0, .int .i64 0] n).toList 0 w (fun j hj => hc j (by omega)) (fun j _ => hf _) (fun v hv => by
    simp only [Builtin.zeroCells, Array.toList_map, List.mem_map] at hv
    obtain ⟨i, _, rfl⟩ := hv
    have : i % 2 < 2 := Nat.mod_lt _ (by omega)
    rcases Nat.lt_or_ge (i % 2) 1 with h | h
    · have : i % 2 = 0 := by omega
      simp [this, Value.oneCell']
    · have : i % 2 = 1 := by omega
      simp [this, Value.oneCell'])
  simp only [Nat.add_zero] at hst
  obtain ⟨m, rfl⟩ : ∃ m, n = m + 1 := ⟨n - 1, by omega⟩
  simp [Builtin.clear_, run_underlying Try.underlying76, hz, Value.cells, hst]

set_option maxHeartbeats 2000000 in
set_option maxRecDepth 100000 in
theorem compact_any (g cap : Nat) (d : Array (Int × Int)) (w : World) (hsz : d.size ≤ 500) (hcap : d.size ≤ cap) (hc2 : cap ≤ maxLen) (hL : Lies w g d) :
    Calls Try.prog 80 #[.slice (some ⟨g, 0, none⟩) d.size cap] w fun e w' => e = .returned (.slice (some ⟨g, 0, none⟩) (compactUpTo d d.size).length cap) ∧ Lies w' g (compactUpTo d d.size).toArray ∧ w.grownBy w' (some g) := by
  have heq := eqP_run
  have hne := neP_run
  have hgd := gdP_run
  unfold maxLen at hc2
  have same : (∀ j, j < d.size → keeps d j = true) → compactUpTo d d.size = d.toList := fun hall => by rw [compactUpTo_all d _ hall, range_map_get]
  have HS := hide same
  have HL := hide hL
  clear same hL
  by_cases h2 : d.size < 2
  · go_enter Try.func80, Try.ntmps80
    go_wp2
    go_ret
    have e := HS.out (fun j hj => keeps_lt_one d j (by omega))
    rw [e]
    exact ⟨rfl, HL.out, ⟨rfl, rfl, rfl, Nat.le_refl _, fun _ _ _ => rfl⟩⟩
  · go_enter Try.func80, Try.ntmps80
    go_wp2
    go_loopw [3] (fun kv wr => ∃ k q : Nat, 1 ≤ k ∧ k ≤ d.size ∧ kv = .int .i64 k ∧ wr = w.drewN q ∧ Hid (∀ j, j < k → keeps d j = true)) (fun kv _ => d.size - (intOf kv).toNat)
    case atStart => exact ⟨1, 0, Nat.le_refl _, by omega, rfl, rfl, hide (keeps_lt_one d)⟩
    case round =>
      obtain ⟨k, q, hk1, hk, rfl, rfl, HK⟩ := hrel
      by_cases hlt : k < d.size
      · obtain ⟨c1, c2⟩ := HL.out.cell hlt
        obtain ⟨c3, c4⟩ := HL.out.cell (j := k - 1) (by omega)
        generalize hx : d[k]! = x at c1 c2
        generalize hy : d[k - 1]! = y at c3 c4
        obtain ⟨x1, x2⟩ := x
        obtain ⟨y1, y2⟩ := y
        simp only at c1 c2 c3 c4
        have B := hide (And.intro hx hy)
        clear hx hy
        by_cases hdup : x1 = y1 ∧ x2 = y2
        · obtain ⟨rfl, rfl⟩ := hdup
          have t1 : (x1 == x1 && x2 == x2) = true := by simp
          go_wp2_with fail
          go_quiet (fail)
          go_wp2
          clear c1 c2 c3 c4
          have hI0 := CompInv.start HK.out (keeps_neg (by omega) (by rw [B.out.1, B.out.2]))
          have HI0 := hide hI0
          clear hI0
          go_loopw [3, 5] (fun kv k2v wr => ∃ (kk k2 : Nat) (dk : Array (Int × Int)), kv = .int .i64 kk ∧ k2v = .int .i64 k2 ∧ 1 ≤ k2 ∧ k + k2 ≤ d.size ∧ Hid (Lies wr g dk) ∧ w.grownBy wr (some g) ∧ Hid (CompInv d (k + k2) kk dk)) (fun _ k2v _ => d.size - (k + (intOf k2v).toNat))
          case atStart => exact ⟨k, 1, d, rfl, rfl, Nat.le_refl _, by omega, HL, ⟨rfl, rfl, rfl, Nat.le_refl _, fun _ _ _ => rfl⟩, HI0⟩
          case round =>
            obtain ⟨kk, k2, dk, rfl, rfl, h1, hle, HLk, hgr, HI⟩ := hrel
            have hkk := HI.out.lt
            have hds := HI.out.size
            by_cases hlt2 : k + k2 < d.size
            · obtain ⟨m1, m2⟩ := HLk.out.cell (j := k + k2) (by omega)
              obtain ⟨m3, m4⟩ := HLk.out.cell (j := k + k2 - 1) (by omega)
              obtain ⟨m5, m6⟩ := HLk.out.cell (j := kk) (by omega)
              have f5 := HLk.out.frozen (kk * 2)
              have f6 := HLk.out.frozen (kk * 2 + 1)
              rw [HI.out.high (k + k2) (by omega)] at m1 m2
              rw [HI.out.high (k + k2 - 1) (by omega)] at m3 m4
              rw [show (k + k2) * 2 = k * 2 + k2 * 2 by omega] at m1 m2
              rw [show (k + k2 - 1) * 2 = k * 2 + (k2 - 1) * 2 by omega] at m3 m4
              generalize hu : d[k + k2]! = u at m1 m2
              generalize hv : d[k + k2 - 1]! = v at m3 m4
              generalize dk[kk]! = old at m5 m6
              obtain ⟨u1, u2⟩ := u
              obtain ⟨v1, v2⟩ := v
              simp only at m1 m2 m3 m4
              have C := hide (And.intro hu hv)
              clear hu hv
              by_cases huv : u1 = v1 ∧ u2 = v2
              · obtain ⟨rfl, rfl⟩ := huv
                have t2 : (!(u1 == u1 && u2 == u2)) = false := by simp
                go_wp2_with fail
                go_quiet (fail)
                go_wp2
                go_roundw
                case rel => exact ⟨kk, k2 + 1, dk, rfl, by go_num, by omega, by omega, HLk, ⟨hgr.os, hgr.tape, hgr.output, hgr.size, hgr.block⟩, hide (HI.out.skip (keeps_neg (by omega) (by rw [C.out.1, C.out.2])))⟩
                case measure => simp [intOf]; omega
              · have t2 : (!(u1 == v1 && u2 == v2)) = true := by rw [Bool.not_eq_true']; simpa using huv
                go_wp2_with fail
                go_quiet (fail)
                go_wp2
                go_roundw
                case rel =>
                  have hLd : Lies (wr.drewN nq) g dk := HLk.out
                  have hgd2 : w.grownBy (wr.drewN nq) (some g) := ⟨hgr.os, hgr.tape, hgr.output, hgr.size, hgr.block⟩
                  have hkp := HI.out.keep hlt2 (keeps_pos (by rw [C.out.1, C.out.2]; intro h; exact huv (by simpa using h)))
                  rw [C.out.1] at hkp
                  exact ⟨kk + 1, k2 + 1, dk.setIfInBounds kk (u1, u2), by go_num, by go_num, by omega, by omega, hide (hLd.set (by omega) u1 u2), grown_trans hgd2 (grown_trans (grown_setCell _ _ _ _) (grown_setCell _ _ _ _)), hide hkp⟩
                case measure => simp [intOf]; omega
            · have hend : k + k2 = d.size := by omega
              have hsome : ∀ j, j < (d.size - kk) * 2 → (wr.cell? ⟨g, kk * 2 + j, none⟩).isSome = true := fun j hj => by
                obtain ⟨q1, q2⟩ := HLk.out.cell (j := (kk * 2 + j) / 2) (by omega)
                rcases Nat.mod_two_eq_zero_or_one j with h | h
                · rw [show kk * 2 + j = (kk * 2 + j) / 2 * 2 by omega, q1]
                  rfl
                · rw [show kk * 2 + j = (kk * 2 + j) / 2 * 2 + 1 by omega, q2]
                  rfl
              obtain ⟨vs, hcl⟩ := run_clear_pairs wr 0 g (kk * 2) (d.size - kk) (cap - kk) (by omega) hsome HLk.out.frozen
              clear hsome
              go_wp2
              go_ret
              have hI := HI.out
              rw [hend] at hI
              refine ⟨by rw [hI.len]; rfl, HLk.out.clear vs (by omega) (by simpa using hI.len) (fun j hj => ?_), grown_trans hgr (grown_setCells g vs _ _)⟩
              have h3 := hI.low j hj
              have h4 : j < (compactUpTo d d.size).toArray.size := by simp; rw [hI.len]; exact hj
              rw [getElem!_pos _ j h4]
              have h5 := List.getElem?_eq_some_iff.1 h3
              obtain ⟨_, h6⟩ := h5
              simpa using h6
        · have t1 : (x1 == y1 && x2 == y2) = false := by simpa using hdup
          go_wp2_with fail
          go_quiet (fail)
          go_wp2
          go_roundw
          case rel =>
            refine ⟨k + 1, _, by omega, by omega, by go_num, rfl, hide fun j hj => ?_⟩
            by_cases e : j = k
            · subst e
              exact keeps_pos (by rw [B.out.1, B.out.2]; intro h; exact hdup (by simpa using h))
            · exact HK.out j (by omega)
          case measure => simp [intOf]; omega
      · have hkd : k = d.size := by omega
        go_wp2
        go_ret
        have e := HS.out (by rw [← hkd]; exact HK.out)
        rw [e]
        exact ⟨rfl, HL.out, ⟨rfl, rfl, rfl, Nat.le_refl _, fun _ _ _ => rfl⟩⟩
end Go.Proofs.Ytkiindkoiomieaa
