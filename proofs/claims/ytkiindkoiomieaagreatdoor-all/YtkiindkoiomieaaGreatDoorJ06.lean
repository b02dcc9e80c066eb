import Derived.Test.YtkiindkoiomieaaGreatDoorJ05
import Derived.BigRegion
import Derived.Test.YtkiindkoiomieaaGreatDoorJ04
import Derived.Lib.Builder
import Derived.Laws.Externs
import Derived.Laws.CopyOwn
import Derived.Deep.RegionLaw
import Derived.Deep.WholeRow
section
/-
  P4: the walk of readTwice.
-/
namespace Go.Proofs.YtkiindkoiomieaaGreatDoor
open Go.RowKit Go.Lib

set_option maxHeartbeats 2000000 in
set_option maxRecDepth 100000 in
theorem twice_any (gr cr go co n : Nat) (rk on : Nat → Nat) (w : World) (hn : n ≤ 300) (hgr : gr < w.heap.size) (hgo : go < w.heap.size) (hr : ∀ x, x < n → w.cell? ⟨gr, x, none⟩ = some (.int .i64 (rk x : Int))) (ho : ∀ x, x < n → w.cell? ⟨go, x, none⟩ = some (.int .i64 (on x : Int))) (hrk : ∀ x, x < n → rk x ≤ 300) (hon : ∀ x, x < n → on x < n) :
    Calls Tryz.prog 94 #[.slice (some ⟨gr, 0, none⟩) n cr, .slice (some ⟨go, 0, none⟩) n co] w fun e w' => ∃ g1 g2 rk', e = .returned (.tuple #[.slice (some ⟨g1, 0, none⟩) n n, .slice (some ⟨g2, 0, none⟩) n n]) ∧ NumsAt w' g1 ((List.range n).map rk') ∧ NumsAt w' g2 ((List.range n).map fun x => on (on x)) ∧ Below w.heap.size w w' ∧ (∀ x, x < n → rk' x < n) ∧ ∀ x y, x < n → y < n → (rk' x < rk' y ↔ rk x < rk y ∨ (rk x = rk y ∧ rk (on x) < rk (on y))) := by
  obtain ⟨cs, hmk, hsize, hlie⟩ := make_pairs n (by omega)
  have hmi := make_ints n (by omega)
  have HLI := hide hlie
  have HR := hide hr
  have HO := hide ho
  have HRK := hide hrk
  have HON := hide hon
  obtain ⟨f, hf⟩ : ∃ f : Nat → Int × Int, f = fun j => (((rk j : Nat) : Int), ((rk (on j) : Nat) : Int)) := ⟨_, rfl⟩
  have HF := hide hf
  clear hlie hsize hr ho hrk hon hf
  go_enter Tryz.func94, Tryz.ntmps94
  go_wp2
  clear hmk hmi
  go_loopw [17] (fun kv wr => ∃ k : Nat, k ≤ n ∧ kv = .int .i64 k ∧ Hid (Lies wr w.heap.size (fillP f n k)) ∧ Hid (NumsAt wr (w.heap.size + 1) (fill (fun x => on (on x)) n k)) ∧ Below w.heap.size w wr) (fun kv _ => n - (intOf kv).toNat)
  case atStart =>
    refine ⟨0, by omega, rfl, ?_, ?_, ((Below.refl _ _).alloc (Nat.le_refl _) _).alloc (by simp) _⟩
    · rw [← fillP_zero]
      refine hide (HLI.out _ _ ?_)
      rw [Lib.alloc_old _ _ _ (by simp)]
      exact heap_alloc_new _ _
    · rw [fill_zero]
      apply hide
      have := heap_alloc_new (w.alloc (.cells cs 77)) (.cells (cellsN (List.replicate n 0)) 3)
      simpa [NumsAt] using this
  case round =>
    obtain ⟨k, hk, rfl, HL, HN, hbx⟩ := hrel
    by_cases hlt : k < n
    · obtain ⟨c1, c2⟩ := HL.out.cell (j := k) (by rw [fillP_size]; exact hlt)
      generalize (fillP f n k)[k]! = old at c1 c2
      have f1 := HL.out.frozen (k * 2)
      have f2 := HL.out.frozen (k * 2 + 1)
      have c3 := cell_here HN.out (cellsN_at (fill_at (fun x => on (on x)) (k := k) hlt))
      rw [if_neg (Nat.lt_irrefl k)] at c3
      have f3 := frozen_of_row _ (w.heap.size + 1) k _ _ HN.out
      have hmn := HON.out k hlt
      have d1 := (hbx.cell (p := ⟨go, k, none⟩) hgo).trans (HO.out k hlt)
      have d2 := (hbx.cell (p := ⟨gr, k, none⟩) hgr).trans (HR.out k hlt)
      have d3 := (hbx.cell (p := ⟨gr, on k, none⟩) hgr).trans (HR.out _ hmn)
      have d4 := (hbx.cell (p := ⟨go, on k, none⟩) hgo).trans (HO.out _ hmn)
      obtain ⟨m, hm⟩ : ∃ m, m = on k := ⟨_, rfl⟩
      obtain ⟨a, ha⟩ : ∃ a, a = rk k := ⟨_, rfl⟩
      obtain ⟨b, hb⟩ : ∃ b, b = rk (on k) := ⟨_, rfl⟩
      obtain ⟨z, hz⟩ : ∃ z, z = on (on k) := ⟨_, rfl⟩
      rw [← hb, ← hm] at d3
      rw [← hz, ← hm] at d4
      rw [← hm] at d1 hmn
      rw [← ha] at d2
      have HM := hide hm
      have HA := hide ha
      have HB := hide hb
      have HZ := hide hz
      have i1 : (0 : Int) ≤ (k : Int) := by omega
      have i2 : (k : Int) < (n : Int) := by omega
      have i3 : (0 : Int) ≤ (m : Int) := by omega
      have i4 : (m : Int) < (n : Int) := by omega
      have n1 : gr ≠ w.heap.size := by omega
      have n2 : go ≠ w.heap.size := by omega
      have n3 : gr ≠ w.heap.size + 1 := by omega
      have n4 : go ≠ w.heap.size + 1 := by omega
      clear hm ha hb hz
      go_wp2_with fail
      go_region
      go_wp2
      go_roundw
      case rel =>
        have hL2 := HL.out.set (i := k) (by rw [fillP_size]; exact hlt) (a : Int) (b : Int)
        have e : ((a : Int), (b : Int)) = f k := by rw [HF.out, HA.out, HB.out]
        rw [e, fillP_set] at hL2
        have hN2 : ((wr.setCell ⟨w.heap.size, k * 2, none⟩ (.int .i64 (a : Int))).setCell ⟨w.heap.size, k * 2 + 1, none⟩ (.int .i64 (b : Int))).heap[w.heap.size + 1]? = some (.cells (cellsN (fill (fun x => on (on x)) n k)) 3 (0, 0)) := by
          rw [heap_setCell_other _ _ _ _ (by simp), heap_setCell_other _ _ _ _ (by simp)]
          exact HN.out
        refine ⟨k + 1, by omega, by go_num, ?_, ?_, ?_⟩
        · exact hide (hL2.kept (heap_setCell_other _ _ _ _ (by simp)))
        · apply hide
          have := heap_setCell_same _ _ k _ _ (.int .i64 (z : Int)) hN2
          rw [cellsN_set, HZ.out] at this
          have e2 := fill_set (fun x => on (on x)) n k
          rw [e2] at this
          rw [HZ.out]
          exact this
        · exact below_drewN (((hbx.setCell (p := ⟨w.heap.size, k * 2, none⟩) (Nat.le_refl _) _).setCell (p := ⟨w.heap.size, k * 2 + 1, none⟩) (Nat.le_refl _) _).setCell (p := ⟨w.heap.size + 1, k, none⟩) (Nat.le_succ _) _) 1
      case measure => simp [intOf]; omega
    · have hkd : k = n := by omega
      have hL := HL.out
      rw [hkd] at hL
      have hN := HN.out
      rw [hkd] at hN
      have hsz := fillP_size f n n
      have cR := ranks_any w.heap.size n (fillP f n n) wr (by rw [hsz]; omega) hL (fillP_wf fun j hj => by
        rw [HF.out]
        have h1 := HRK.out j hj
        have h2 := HRK.out _ (HON.out j hj)
        exact ⟨WalkArith.wf_i64 (by simp only; omega), WalkArith.wf_i64 (by simp only; omega)⟩)
      rw [hsz] at cR
      have CR := hide cR
      have HN2 := hide hN
      have hlt2 := heap_lt0 hN
      clear cR hL hsz HL hkd HN hN
      go_wp2_with (go_at_call 115; refine CR.out.mono ?_; rintro e w1 ⟨g', p, rfl, hN, hg', hb1, hR⟩)
      go_ret2
      refine ⟨g', w.heap.size + 1, p, rfl, hN, ?_, hbx.trans (hb1.mono hbx.size), fun x hx => ?_, fun x y hx hy => ?_⟩
      · unfold NumsAt
        rw [hb1.block _ hlt2]
        have := HN2.out
        have e : fill (fun x => on (on x)) n n = (List.range n).map fun x => on (on x) := by
          unfold fill
          exact List.map_congr_left fun j hj => by rw [if_pos (List.mem_range.1 hj)]
        rw [e] at this
        exact this
      · have := hR.lt x (by rw [fillP_size]; exact hx)
        rwa [fillP_size] at this
      · rw [hR.ord x y (by rw [fillP_size]; exact hx) (by rw [fillP_size]; exact hy), fillP_at f hx, fillP_at f hy, HF.out, ltP_iff]
        simp only
        omega
end Go.Proofs.YtkiindkoiomieaaGreatDoor
end

section
/-
  The walks of strings.Builder's copyCheck and WriteByte.
-/
namespace Go.Proofs.YtkiindkoiomieaaGreatDoor
open Go.RowKit

theorem Tryz.info83 : (Tryz.prog.info? 83).map (·.size) = some 2 := by kernel_rfl
theorem Tryz.lies83 : liesAt Tryz.prog Tryz.prog.depth 83 (2 / Tryz.prog.cellsOf 83) 0 83 1 = true := by kernel_rfl
theorem Tryz.info5 : (Tryz.prog.info? 5).map (fun i => (i.zero, i.size, i.bytes)) = some (some (.int .u8 0), 1, 1) := by kernel_rfl

set_option maxHeartbeats 400000 in
set_option maxRecDepth 100000 in
theorem check_used (b : Nat) (w : World) (h0 : w.cell? ⟨b, 0, none⟩ = some (.pointer (some ⟨b, 0, none⟩))) :
    Calls Tryz.prog 98 #[.pointer (some ⟨b, 0, none⟩)] w fun e w' => e = .returned (.tuple #[]) ∧ w' = w := by
  obtain ⟨j, hj, _⟩ := Option.map_eq_some_iff.1 Tryz.info83
  go_enter Tryz.func98, Tryz.ntmps98
  go_wp2
  rw [Lib.run_neq_ptr_same w _ Tryz.underlying80 hj]
  go_wp2
  go_end0
  exact ⟨rfl, rfl⟩

set_option maxHeartbeats 400000 in
set_option maxRecDepth 100000 in
theorem check_fresh (b : Nat) (w : World) (h0 : w.cell? ⟨b, 0, none⟩ = some (.pointer none)) (hsh : w.shape? b = some (83, 2)) (hfz : w.frozen? ⟨b, 0, none⟩ = false) :
    Calls Tryz.prog 98 #[.pointer (some ⟨b, 0, none⟩)] w fun e w' => e = .returned (.tuple #[]) ∧ w' = w.setCell ⟨b, 0, none⟩ (.pointer (some ⟨b, 0, none⟩)) := by
  obtain ⟨j, hj, hjs⟩ := Option.map_eq_some_iff.1 Tryz.info83
  go_enter Tryz.func98, Tryz.ntmps98
  go_wp2
  rw [Lib.run_to_unsafe w ⟨b, 0, none⟩ Tryz.underlying80 Tryz.underlying134 hj (by rw [hjs]; decide) hsh (Nat.zero_lt_succ 1)]
  simp only [Result.andThen]
  rw [Oper.upon_value]
  go_wp2
  rw [run_callFunc_extern Tryz.func125 (by kernel_rfl) (by kernel_rfl) (by kernel_rfl) (e := Extern.AbiNoEscape.same) (by kernel_rfl), Lib.run_noEscape]
  simp only [Result.andThen]
  rw [Oper.upon_value]
  go_wp2
  rw [Lib.run_from_unsafe w ⟨b, 0, none⟩ Tryz.underlying134 Tryz.underlying80 hj hsh Tryz.lies83]
  simp only [Result.andThen]
  rw [Oper.upon_value]
  go_wp2
  go_end0
  exact ⟨rfl, rfl⟩

theorem check_any (B b : Nat) (bs : List Value) (w : World) (h : Lib.IsBuilder 83 5 B b bs w) :
    Calls Tryz.prog 98 #[.pointer (some ⟨b, 0, none⟩)] w fun e w' => e = .returned (.tuple #[]) ∧ Lib.BuilderAt 83 5 B b (.pointer (some ⟨b, 0, none⟩)) bs w' ∧ Below B w w' := by
  rcases h with h | h
  · refine (check_fresh b w h.cell0 h.shape h.frozen0).mono ?_
    rintro e w' ⟨rfl, rfl⟩
    exact ⟨rfl, h.used _, (Below.refl B w).setCell (p := ⟨b, 0, none⟩) h.1 _⟩
  · refine (check_used b w h.cell0).mono ?_
    rintro e w' ⟨rfl, rfl⟩
    exact ⟨rfl, h, Below.refl B _⟩

set_option maxHeartbeats 1000000 in
set_option maxRecDepth 100000 in
theorem write_any (B b : Nat) (bs : List Value) (c : Int) (w : World) (h : Lib.IsBuilder 83 5 B b bs w) (hlen : bs.length ≤ 1000000) (hBw : B ≤ w.heap.size) :
    Calls Tryz.prog 63 #[.pointer (some ⟨b, 0, none⟩), .int .u8 c] w fun e w' => e = .returned .nilIface ∧ Lib.BuilderAt 83 5 B b (.pointer (some ⟨b, 0, none⟩)) (bs ++ [.int .u8 c]) w' ∧ Below B w w' := by
  obtain ⟨i0, hi, hz0, hz1, hz2⟩ := info_parts Tryz.info5
  go_enter Tryz.func63, Tryz.ntmps63
  go_wp2_with (go_at_call 98; refine (check_any B b bs _ h).mono ?_)
  rintro e w1 ⟨rfl, h1, hb1⟩
  obtain ⟨hB, v, hbk, hown, hne⟩ := h1
  have c1 : w1.cell? ⟨b, 1, none⟩ = some v := by rw [Lib.cell_of_heap hbk]; rfl
  go_wp2_with (at_builtin; refine wpList_append_own _ rfl _ _ 81 rfl B 5 i0 (.int .u8 0) 1 1 Tryz.underlying81 hi hz0 hz1 hz2 rfl (by decide) _ _ _ rfl (hown.alloc _) ⟨w1.heap.size, 0, none⟩ 1 1 [.int .u8 c] rfl rfl (cell_one_new _ _ _) (fun x hx => by simp at hx; subst hx; rfl) (by unfold maxLen; omega) (by omega) (by have := hb1.size; simp; omega) ?_)
  intro v' w2 hown' hgrow _
  have hlt : b < w1.heap.size := by
    rcases Nat.lt_or_ge b w1.heap.size with h' | h'
    · exact h'
    · simp [Array.getElem?_eq_none h'] at hbk
  have hb2 : w2.heap[b]? = some (.cells #[.pointer (some ⟨b, 0, none⟩), v] 83 (0, 0)) := by
    rw [hgrow.block b (by simp; omega) (fun e => hne e.symm), Lib.alloc_old w1 _ b hlt]
    exact hbk
  have d1 : w2.cell? ⟨b, 1, none⟩ = some v := by rw [Lib.cell_of_heap hb2]; rfl
  have f1 : w2.frozen? ⟨b, 1, none⟩ = false := Lib.frozen_of_heap hb2 1
  obtain ⟨g, cap, rfl⟩ : ∃ g cap, v' = .slice (some ⟨g, 0, none⟩) (bs.length + 1) cap := by
    rcases hown'.2 with ⟨_, h0⟩ | ⟨g, cap, cur, hv, _⟩
    · omega
    · exact ⟨g, cap, hv⟩
  go_wp2
  go_ret
  refine ⟨rfl, ?_, ?_⟩
  · exact Lib.BuilderAt.put hB hb2 (bs' := bs ++ [.int .u8 c]) (by simpa using hown') (by decide)
  · exact ((hb1.alloc (by have := hb1.size; omega) _).grown hgrow (by have := hb1.size; simp; omega) (fun k hk => (hown.lt k hk).1)).setCell (p := ⟨b, 1, none⟩) hB _
end Go.Proofs.YtkiindkoiomieaaGreatDoor
end

section
/-
  P5: a list of 256 bytes in a block: sortedBytes, layFirst.
-/
namespace Go.Proofs.YtkiindkoiomieaaGreatDoor
open Go.RowKit

/-- Bytes as cells. -/
def cellsB (l : List UInt8) : Array Value := (l.map fun b => Value.int .u8 b.toNat).toArray
/-- The first k bytes by their worth, zeros behind them. -/
def part (k : Nat) : List UInt8 := (List.range 256).map fun i => if i < k then UInt8.ofNat i else 0

theorem cellsB_size (l : List UInt8) : (cellsB l).size = l.length := by simp [cellsB]
theorem part_length (k : Nat) : (part k).length = 256 := by simp [part]
theorem cellsB_at {l : List UInt8} {j : Nat} {c : UInt8} (h : l[j]? = some c) : (cellsB l)[j]? = some (.int .u8 c.toNat) := by simp [cellsB, h]
theorem cellsB_set (l : List UInt8) (k : Nat) (c : UInt8) : (cellsB l).setIfInBounds k (.int .u8 c.toNat) = cellsB (l.set k c) := by
  simp [cellsB, List.map_set]
theorem part_set {k : Nat} (h : k < 256) : (part k).set k (UInt8.ofNat k) = part (k + 1) := by
  apply List.ext_getElem?
  intro i
  rw [List.getElem?_set]
  by_cases hi : k = i
  · subst hi
    simp [part, h]
  · rw [if_neg hi]
    by_cases h2 : i < 256
    · simp only [part, List.getElem?_map, List.getElem?_range h2, Option.map_some, Option.some.injEq]
      by_cases h3 : i < k
      · rw [if_pos h3, if_pos (by omega)]
      · rw [if_neg h3, if_neg (by omega)]
    · have e : ∀ n, (part n)[i]? = none := fun n => List.getElem?_eq_none (by rw [part_length]; omega)
      rw [e, e]

theorem bl_cell {w : World} {g : Nat} {l : List UInt8} {t : TypeId} {fr : Nat × Nat} (h : w.heap[g]? = some (.cells (cellsB l) t fr)) {j : Nat} {c : UInt8} (hc : l[j]? = some c) : w.cell? ⟨g, j, none⟩ = some (.int .u8 c.toNat) := by
  rw [cell_of_row w g j _ t fr h]
  exact cellsB_at hc

theorem Tryz.zero88 : (Tryz.prog.info? 88).bind (fun i => i.zero) = some (.agg (cellsB (part 0))) := by kernel_rfl
theorem Tryz.size88 : (Tryz.prog.info? 88).map (·.size) = some 256 := by kernel_rfl
theorem zv71 (w : World) : Sem.run Tryz.prog (zeroValue 88) w = .ok (.agg (cellsB (part 0))) w := by
  have h := Tryz.zero88
  cases hi : Tryz.prog.info? 88 with
  | none => rw [hi] at h; cases h
  | some i =>
    rw [hi] at h
    have h : i.zero = some (.agg (cellsB (part 0))) := h
    simp [zeroValue, typeInfo, hi, h, go_sem]

theorem all_one (l : List UInt8) : (cellsB l).all (·.oneCell') = true := by
  simp [cellsB, Value.oneCell']

set_option maxHeartbeats 1000000 in
set_option maxRecDepth 100000 in
theorem sorted_any (w : World) :
    Calls Tryz.prog 65 #[] w fun e w' => e = .returned (.agg (cellsB (part 256))) ∧ Below w.heap.size w w' := by
  have hz := zv71
  go_enter Tryz.func65, Tryz.ntmps65
  go_wp2
  clear hz
  go_loopw [3] (fun i wr => ∃ k : Nat, k ≤ 256 ∧ i = .int .i64 k ∧ wr.heap[w.heap.size]? = some (.cells (cellsB (part 0)) 88 (0, 0)) ∧ wr.heap[w.heap.size + 1]? = some (.cells (cellsB (part k)) 88 (0, 0)) ∧ Below w.heap.size w wr) (fun i _ => 256 - (intOf i).toNat)
  case atStart => exact ⟨0, by omega, rfl, heap_alloc2_old _ _ _, heap_alloc2_new _ _ _, ((Below.refl _ _).alloc (Nat.le_refl _) _).alloc (by simp) _⟩
  case round =>
    obtain ⟨k, hk, rfl, hz0, hc, hbx⟩ := hrel
    by_cases hlt : k < 256
    · obtain ⟨c, hcc⟩ : ∃ c, (part k)[k]? = some c := ⟨_, List.getElem?_eq_getElem (by rw [part_length]; exact hlt)⟩
      have hcell := bl_cell hc hcc
      have hfr := frozen_of_row wr (w.heap.size + 1) k _ 88 hc
      have HZ := hide hz0
      have HC := hide hc
      clear hz0 hc hcc
      go_wp2
      go_roundw
      case rel =>
        refine ⟨k + 1, by omega, by go_num, ?_, ?_, hbx.setCell (p := ⟨w.heap.size + 1, k, none⟩) (by simp) _⟩
        · rw [heap_setCell_other _ _ _ _ (by simp)]
          exact HZ.out
        · rw [heap_setCell_same _ _ _ _ _ _ HC.out]
          have e : (k : Int) = ((UInt8.ofNat k).toNat : Int) := by simp; omega
          rw [e, cellsB_set, part_set hlt]
      case measure => simp [intOf]; omega
    · have hk2 : k = 256 := by omega
      subst hk2
      have HZ := hide hz0
      have HC := hide hc
      clear hz0 hc
      go_wp2_with (first
        | (refine wpList_load_row rfl 88 (.tmp 1) rfl (w.heap.size + 1) rfl 88 _ (0, 0) _ HC.out Tryz.underlying88 rfl (by rw [cellsB_size, part_length]; exact Tryz.size88) ?_)
        | (refine wpList_store_row rfl 88 (.tmp 0) (.tmp 11) rfl w.heap.size (cellsB (part 256)) rfl rfl 88 _ HZ.out (by rw [cellsB_size, part_length]; exact Tryz.size88) (by rw [cellsB_size, cellsB_size, part_length, part_length]) (all_one _) ?_))
      refine bodyPost_ret (v := .agg (cellsB (part 256))) ?_ rfl ⟨rfl, below_setRow hbx (Nat.le_refl _) _⟩
      exact results_cell_row rfl _ _ w.heap.size 88 _ (0, 0) _ rfl (setRow_heap wr _ _ _ _ _ HZ.out) Tryz.underlying88 rfl (by rw [cellsB_size, part_length]; exact Tryz.size88)

/-- copy within a row that is known whole, as one step of a region that draws: what the world is behind it. -/
theorem step_copy_row {P : Program} {ops : Array Oper} {o : Oper} {a : Act} {w : World} {K : Act → World → Prop} {Q : Exit → Act → World → Prop} {E : Prop} (hgd : o.guard = none) (d s : Operand) (dT sT : TypeId)
    (ho : o.op = .call { callee := .builtin .copy, args := #[d, s], argTypes := #[dT, sT] }) (elem : TypeId) (hu : P.underlying dT = some (.slice elem)) (hsz : (P.info? elem).map (·.size) = some 1)
    (g off soff n dCap sCap : Nat) (hd : a.eval d = .slice (some ⟨g, off, none⟩) n dCap) (hs : a.eval s = .slice (some ⟨g, soff, none⟩) n sCap)
    (cur : List Value) (t : TypeId) (hg : w.heap[g]? = some (.cells cur.toArray t (0, 0)))
    (hfit : off + n ≤ cur.length) (hsf : soff + n ≤ cur.length) (h1 : ∀ v ∈ cur, v.oneCell' = true)
    (X : Array Value) (hX : X = (splice cur off ((cur.drop soff).take n)).toArray) (h : K (a.put o.dst (goInt n)) (w.setRow g X)) :
    if Region.wanted o (yielded ops a.tmps) = true then Oper.wp P o a w K Q else E := by
  have hw : Region.wanted o (yielded ops a.tmps) = true := by simp [Region.wanted, hgd]
  rw [if_pos hw]
  have hl : ((cur.drop soff).take n).length = n := by simp; omega
  have hrun := run_copy_row (P := P) w dT sT o.type elem g off n dCap ⟨g, soff, none⟩ n sCap cur.toArray t ((cur.drop soff).take n) hu hsz hg (by rw [hl]; exact (Nat.min_self n).symm)
    (fun j v hv => by
      have hj : j < n := by have := (List.getElem?_eq_some_iff.1 hv).1; omega
      rw [Addr.add_lit, cell_of_row w g _ _ t _ hg]
      simpa [hj] using hv) (by rw [hl]; simpa using hfit) (fun v hv => h1 v (List.mem_of_mem_drop (List.mem_of_mem_take hv)))
  rw [hl] at hrun
  have e : (cur.toArray.toList.take off ++ (cur.drop soff).take n ++ cur.toArray.toList.drop (off + n)).toArray = (splice cur off ((cur.drop soff).take n)).toArray := by
    rw [splice, hl, List.append_assoc]
  rw [e, ← hX] at hrun
  unfold Oper.wp
  simp [execOp, ho, resolve, invoke, builtin, hd, hs, hrun, Result.andThen]
  exact h

/-- The byte at place p is laid first. -/
def mtf (l : List UInt8) (p : Nat) : List UInt8 := (l[p]?.getD 0) :: (l.take p ++ l.drop (p + 1))

theorem mtf_length {l : List UInt8} {p : Nat} (h : p < l.length) : (mtf l p).length = l.length := by simp [mtf]; omega

theorem Tryz.size5 : (Tryz.prog.info? 5).map (·.size) = some 1 := by kernel_rfl

theorem mtf_cells {l : List UInt8} {p : Nat} {c : UInt8} (h : l[p]? = some c) :
    (splice (cellsB l).toList 1 (((cellsB l).toList.drop 0).take p)).toArray.setIfInBounds 0 (.int .u8 c.toNat) = cellsB (mtf l p) := by
  have hp : p < l.length := (List.getElem?_eq_some_iff.1 h).1
  obtain ⟨x, r, rfl⟩ : ∃ x r, l = x :: r := by
    cases l with
    | nil => simp at hp
    | cons x r => exact ⟨x, r, rfl⟩
  simp at hp
  simp [splice, cellsB, mtf, h, List.map_take, List.map_drop, Nat.min_eq_left (by omega : p ≤ r.length + 1), Nat.add_comm 1 p]

set_option maxHeartbeats 1000000 in
set_option maxRecDepth 100000 in
theorem lay_any (b p : Nat) (l : List UInt8) (w : World) (hl : l.length = 256) (hp : p < 256) (hb : w.heap[b]? = some (.cells (cellsB l) 88 (0, 0))) :
    Calls Tryz.prog 67 #[.pointer (some ⟨b, 0, none⟩), .int .i64 p] w fun e w' => e = .returned (.tuple #[]) ∧ w'.heap[b]? = some (.cells (cellsB (mtf l p)) 88 (0, 0)) ∧ w.grownBy w' (some b) := by
  obtain ⟨c, hc⟩ : ∃ c, l[p]? = some c := ⟨_, List.getElem?_eq_getElem (by omega)⟩
  have hcell := bl_cell hb hc
  have HB := hide hb
  have hcl : (cellsB l).toList.length = 256 := by simp [cellsB, hl]
  obtain ⟨C, hC⟩ : ∃ C, (cellsB l).toList = C := ⟨_, rfl⟩
  have HC := hide hC
  have hb' : w.heap[b]? = some (.cells C.toArray 88 (0, 0)) := by rw [hb, ← hC]
  have hC1 : ∀ v ∈ C, v.oneCell' = true := by
    rw [← hC]
    intro v hv
    simp [cellsB] at hv
    obtain ⟨a, _, rfl⟩ := hv
    rfl
  rw [hC] at hcl
  have H1 := hide hC1
  have HB' := hide hb'
  have hwr : IntKind.i64.wrap ((p : Int) + 1) = (p : Int) + 1 := IntWalk.i64_in _ (by omega)
  have hk1 : (1 : Int) ≤ (p : Int) + 1 := by omega
  have hk2 : (p : Int) + 1 ≤ 256 := by omega
  have hk3 : (p : Int) ≤ 256 := by omega
  obtain ⟨X, hX⟩ : ∃ X, X = (splice C 1 ((C.drop 0).take p)).toArray := ⟨_, rfl⟩
  have hXs : 0 < X.size := by rw [hX, List.size_toArray, length_splice _ _ _ (by simp; omega)]; omega
  have hrow : ∀ W : World, W.heap = w.heap → (W.setRow b X).heap[b]? = some (.cells X 88 (0, 0)) := fun W hW => setRow_heap W b C.toArray X 88 _ (by rw [hW]; exact hb')
  have hc0 : (w.drew.setRow b X).cell? ⟨b, 0, none⟩ = some X[0] := by
    rw [cell_of_row _ b 0 X 88 _ (hrow w.drew rfl)]
    exact Array.getElem?_eq_getElem hXs
  have hf0 : (w.drew.setRow b X).frozen? ⟨b, 0, none⟩ = false := frozen_of_row _ b 0 X 88 (hrow w.drew rfl)
  have hend : ((w.drew.setRow b X).setCell ⟨b, 0, none⟩ (.int .u8 c.toNat)).heap[b]? = some (.cells (cellsB (mtf l p)) 88 (0, 0)) := by
    rw [heap_setCell_same _ b 0 X 88 _ (hrow w.drew rfl), hX, ← hC, mtf_cells hc]
  have hgr : w.grownBy ((w.drew.setRow b X).setCell ⟨b, 0, none⟩ (.int .u8 c.toNat)) (some b) := by
    refine ⟨rfl, rfl, rfl, by simp, fun k hk hne => ?_⟩
    have hkb : k ≠ b := fun e => hne (by rw [e])
    rw [heap_setCell_other _ _ _ _ (by exact hkb), setRow_other _ _ _ _ hkb]
    rfl
  have HX := hide hX
  have HE := hide hend
  have HR := hide hgr
  clear hb hc hC hC1 hb' hX hrow hend hgr
  go_enter Tryz.func67, Tryz.ntmps67
  go_wp2
  go_region_law (refine step_copy_row rfl (.tmp 14) (.tmp 18) 81 81 rfl 5 Tryz.underlying81 Tryz.size5 b 1 0 p 255 256 (by simp [Act.eval, Act.put]) (by simp [Act.eval, Act.put]) C 88 HB'.out (by omega) (by omega) H1.out X HX.out ?_)
  go_wp2
  go_end0
  exact ⟨rfl, HE.out, HR.out⟩
end Go.Proofs.YtkiindkoiomieaaGreatDoor
end

section
/-
  P5: places and bytes, as functions of lists; the walk of bytesAt.
-/
namespace Go.Proofs.YtkiindkoiomieaaGreatDoor
open Go.RowKit

/-- Bytes as places in the list. -/
def frontL : List UInt8 → List UInt8 → List UInt8
  | _, [] => []
  | l, c :: r => UInt8.ofNat (l.idxOf c) :: frontL (mtf l (l.idxOf c)) r

/-- Places as bytes of the list. -/
def behindL : List UInt8 → List UInt8 → List UInt8
  | _, [] => []
  | l, p :: r => (l[p.toNat]?.getD 0) :: behindL (mtf l p.toNat) r

/-- All bytes stand in the list. -/
def Full (l : List UInt8) : Prop := l.length = 256 ∧ ∀ c, c ∈ l

theorem full_part : Full (part 256) := by
  refine ⟨part_length _, fun c => ?_⟩
  refine List.mem_map.2 ⟨c.toNat, List.mem_range.2 (by have := c.toNat_lt; omega), ?_⟩
  rw [if_pos (by have := c.toNat_lt; omega)]
  simp

theorem Full.mtf {l : List UInt8} (h : Full l) {p : Nat} (hp : p < 256) : Full (mtf l p) := by
  have hp' : p < l.length := by rw [h.1]; exact hp
  refine ⟨by rw [mtf_length hp', h.1], fun c => ?_⟩
  have hc := h.2 c
  rw [← List.take_append_drop p l, List.mem_append] at hc
  rw [List.drop_eq_getElem_cons hp', List.mem_cons] at hc
  unfold Go.Proofs.YtkiindkoiomieaaGreatDoor.mtf
  rw [List.getElem?_eq_getElem hp', Option.getD_some, List.mem_cons, List.mem_append]
  rcases hc with h1 | h1 | h1
  · exact .inr (.inl h1)
  · exact .inl h1
  · exact .inr (.inr h1)

theorem drop_byte (s : ByteArray) (k : Nat) (h : k < s.size) : s.data.toList.drop k = s[k] :: s.data.toList.drop (k + 1) := by
  have h' : k < s.data.toList.length := by simpa using h
  rw [List.drop_eq_getElem_cons h']
  rfl

theorem builder_kept {T e : TypeId} {B b : Nat} {bs : List Value} {w w' : World} {g : Nat} (h : Lib.IsBuilder T e B b bs w) (hg : w.grownBy w' (some g)) (hgB : g < B) : Lib.IsBuilder T e B b bs w' := by
  have key : ∀ p, Lib.BuilderAt T e B b p bs w → Lib.BuilderAt T e B b p bs w' := fun p hp => by
    have hlt := hp.lt
    obtain ⟨hB, v, hb, hown, hne⟩ := hp
    refine ⟨hB, v, by rw [hg.block b hlt (by simp; omega)]; exact hb, hown.kept hg ?_, hne⟩
    cases hv : v.ownBlock with
    | none => exact .inl rfl
    | some k =>
      right
      have := (hown.lt k hv).1
      simp
      omega
  rcases h with h | h
  · exact .inl (key _ h)
  · exact .inr (key _ h)

theorem byteCells_snoc (l : List UInt8) (c : UInt8) : Lib.byteCells l ++ [.int .u8 c.toNat] = Lib.byteCells (l ++ [c]) := by simp [Lib.byteCells]

theorem fresh_at (w1 : World) (o : Obj) : Lib.IsBuilder 83 5 (w1.heap.size + 1) (w1.heap.size + 1) (Lib.byteCells []) ((w1.alloc o).alloc (.cells #[.pointer none, .slice none 0 0] 83)) := by
  have h := Lib.fresh_isBuilder 83 5 (w1.alloc o)
  have e : (w1.alloc o).heap.size = w1.heap.size + 1 := by simp
  rw [e] at h
  exact h

theorem ret_str {a b : List UInt8} (h : a = b) : Ending.returned (.string ⟨a.toArray⟩) = .returned (.string ⟨b.toArray⟩) := by rw [h]

theorem drop_end (s : ByteArray) (k : Nat) (h : ¬ k < s.size) : s.data.toList.drop k = [] := List.drop_eq_nil_of_le (by rw [← Lib.size_eq]; omega)

set_option maxHeartbeats 1000000 in
set_option maxRecDepth 100000 in
theorem bytesAt_any (s : ByteArray) (w : World) (hs : s.size ≤ 500) :
    Calls Tryz.prog 36 #[.string s] w fun e w' => e = .returned (.string ⟨(behindL (part 256) s.data.toList).toArray⟩) ∧ Below w.heap.size w w' := by
  have hz := zv71
  go_enter Tryz.func36, Tryz.ntmps36
  go_wp2_with (first
    | (go_at_call 65; refine (sorted_any _).mono ?_; rintro e w1 ⟨rfl, hb1⟩)
    | (refine wpList_store_row rfl 88 (.tmp 3) (.tmp 7) rfl w1.heap.size (cellsB (part 256)) rfl rfl 88 (cellsB (part 0)) (heap_alloc_new _ _) (by rw [cellsB_size, part_length]; exact Tryz.size88) (by rw [cellsB_size, cellsB_size, part_length, part_length]) (all_one _) ?_; rw [World.setRow_alloc_new]))
  clear hz
  go_loopw [10] (fun i wr => ∃ (k : Nat) (l out : List UInt8), k ≤ s.size ∧ i = .int .i64 k ∧ Hid (wr.heap[w1.heap.size]? = some (.cells (cellsB l) 88 (0, 0))) ∧ Lib.IsBuilder 83 5 (w1.heap.size + 1) (w1.heap.size + 1) (Lib.byteCells out) wr ∧ out.length = k ∧ Full l ∧ Below w.heap.size w wr ∧ w1.heap.size + 1 ≤ wr.heap.size ∧ Hid (out ++ behindL l (s.data.toList.drop k) = behindL (part 256) s.data.toList)) (fun i _ => s.size - (intOf i).toNat)
  case atStart => exact ⟨0, part 256, [], Nat.zero_le _, rfl, heap_alloc2_old _ _ _, fresh_at _ _, rfl, full_part, (hb1.alloc hb1.size _).alloc (by have := hb1.size; simp; omega) _, by simp, rfl⟩
  case round =>
    obtain ⟨k, l, out, hk, rfl, HL, hB, hok, hfull, hbx, hsz, HS⟩ := hrel
    by_cases hlt : k < s.size
    · obtain ⟨c, hc⟩ : ∃ c, l[s[k].toNat]? = some c := ⟨_, List.getElem?_eq_getElem (by rw [hfull.1]; have := s[k].toNat_lt; omega)⟩
      have hcell := bl_cell HL.out hc
      have hpl : s[k].toNat < 256 := by have := s[k].toNat_lt; omega
      have HC := hide hc
      have cW := hide (write_any (w1.heap.size + 1) (w1.heap.size + 1) (Lib.byteCells out) c.toNat wr hB (by rw [Lib.byteCells_length]; omega) hsz)
      have HF := hide hfull
      have hstep : behindL l (s.data.toList.drop k) = c :: behindL (mtf l s[k].toNat) (s.data.toList.drop (k + 1)) := by
        rw [drop_byte s k hlt, behindL, hc, Option.getD_some]
      have HST := hide hstep
      clear hB hc hfull hstep
      go_wp2_with (first
        | (go_at_call 63; refine (unhide cW).mono ?_; rintro e w2 ⟨rfl, hb2, hbl2⟩; have cL := hide (lay_any w1.heap.size s[k].toNat l w2 HF.out.1 hpl ((hbl2.block _ (Nat.lt_succ_self _)).trans HL.out)))
        | (go_at_call 67; refine (unhide cL).mono ?_; rintro e w3 ⟨rfl, hl3, hg3⟩; have HL3 := hide hl3; clear hl3))
      go_roundw
      case rel =>
        refine ⟨k + 1, mtf l s[k].toNat, out ++ [c], by omega, by go_num, HL3, ?_, by simp; exact hok, HF.out.mtf hpl, (hbx.trans (hbl2.mono (by have := hb1.size; omega))).grown hg3 (by have := hb1.size; have := hbl2.size; omega) (fun j hj => by cases hj; exact hb1.size), ?_, ?_⟩
        · rw [← byteCells_snoc]
          exact builder_kept (.inr hb2) hg3 (Nat.lt_succ_self _)
        · have := hbl2.size
          have := hg3.size
          omega
        · show _ = _
          rw [← HS.out, HST.out, List.append_assoc]
          rfl
      case measure => simp [intOf]; omega
    · go_wp2_with (go_at_call 64; refine (Tryz.Builder_String_any _ _ _ _ hB (by omega)).mono ?_; rintro e w' ⟨rfl, hb3⟩)
      go_ret
      have hend := HS.out
      rw [drop_end s k hlt, behindL, List.append_nil] at hend
      exact ⟨ret_str hend, hbx.trans (hb3.mono (by have := hb1.size; omega))⟩

theorem index_of {l : List UInt8} {c : UInt8} (h : c ∈ l) : Lib.indexByte l c = (l.idxOf c : Nat) := by
  induction l with
  | nil => cases h
  | cons b l ih =>
    by_cases hb : b = c
    · subst hb
      simp [Lib.indexByte]
    · have hm : c ∈ l := by
        rcases List.mem_cons.1 h with h1 | h1
        · exact absurd h1.symm hb
        · exact h1
      have hbc : (b == c) = false := by simpa using hb
      have hne : ((l.idxOf c : Int) == -1) = false := by rw [beq_eq_false_iff_ne]; omega
      rw [List.idxOf_cons, hbc, Lib.indexByte, hbc, ih hm, hne]
      simp

theorem idx_lt {l : List UInt8} (h : Full l) (c : UInt8) : l.idxOf c < 256 := by
  rw [← h.1]
  exact List.idxOf_lt_length_of_mem (h.2 c)

theorem bytesOf_cast (l : List UInt8) : Lib.bytesOf (l.map fun b => (b.toNat : Int)) = l := by
  unfold Lib.bytesOf
  rw [List.map_map]
  conv => rhs; rw [← List.map_id l]
  apply List.map_congr_left
  intro b _
  simp

set_option maxHeartbeats 1000000 in
set_option maxRecDepth 100000 in
theorem placesOf_any (s : ByteArray) (w : World) (hs : s.size ≤ 300) :
    Calls Tryz.prog 35 #[.string s] w fun e w' => e = .returned (.string ⟨(frontL (part 256) s.data.toList).toArray⟩) ∧ Below w.heap.size w w' := by
  have hz := zv71
  go_enter Tryz.func35, Tryz.ntmps35
  go_wp2_with (first
    | (go_at_call 65; refine (sorted_any _).mono ?_; rintro e w1 ⟨rfl, hb1⟩)
    | (refine wpList_store_row rfl 88 (.tmp 3) (.tmp 7) rfl w1.heap.size (cellsB (part 256)) rfl rfl 88 (cellsB (part 0)) (heap_alloc_new _ _) (by rw [cellsB_size, part_length]; exact Tryz.size88) (by rw [cellsB_size, cellsB_size, part_length, part_length]) (all_one _) ?_; rw [World.setRow_alloc_new]))
  clear hz
  go_loopw [10] (fun i wr => ∃ (k : Nat) (l out : List UInt8), k ≤ s.size ∧ i = .int .i64 k ∧ Hid (wr.heap[w1.heap.size]? = some (.cells (cellsB l) 88 (0, 0))) ∧ Lib.IsBuilder 83 5 (w1.heap.size + 1) (w1.heap.size + 1) (Lib.byteCells out) wr ∧ out.length = k ∧ Full l ∧ Below w.heap.size w wr ∧ w1.heap.size + 1 ≤ wr.heap.size ∧ Hid (out ++ frontL l (s.data.toList.drop k) = frontL (part 256) s.data.toList)) (fun i _ => s.size - (intOf i).toNat)
  case atStart => exact ⟨0, part 256, [], Nat.zero_le _, rfl, heap_alloc2_old _ _ _, fresh_at _ _, rfl, full_part, (hb1.alloc hb1.size _).alloc (by have := hb1.size; simp; omega) _, by simp, rfl⟩
  case round =>
    obtain ⟨k, l, out, hk, rfl, HL, hB, hok, hfull, hbx, hsz, HS⟩ := hrel
    by_cases hlt : k < s.size
    · obtain ⟨p, hp⟩ : ∃ p, p = l.idxOf s[k] := ⟨_, rfl⟩
      have hpl : p < 256 := by rw [hp]; exact idx_lt hfull _
      have hpw : IntKind.u8.wrap (p : Int) = (p : Int) := IntWalk.u8_in _ (by omega)
      have hpc : (p : Int) = ((UInt8.ofNat p).toNat : Int) := by simp; omega
      have cI := Tryz.bytes_IndexByte w1.heap.size 0 256 256 (l.map fun b => (b.toNat : Int)) (s[k].toNat : Int)
      have cI2 : ∀ W : World, W.heap = wr.heap → Calls Tryz.prog 66 #[.slice (some ⟨w1.heap.size, 0, none⟩) 256 256, .int .u8 (s[k].toNat : Int)] W fun e w' => e = .returned (.int .i64 (p : Int)) ∧ w' = W := fun W hW => by
        have h := cI W (by simp [hfull.1]) (fun i hi => by
          have hi' : i < l.length := by rw [hfull.1]; exact hi
          have := bl_cell (w := W) (g := w1.heap.size) (l := l) (t := 88) (fr := (0, 0)) (by rw [hW]; exact HL.out) (List.getElem?_eq_getElem hi')
          rw [Nat.zero_add, this]
          simp [List.getD, hi'])
        rw [bytesOf_cast] at h
        have e1 : (s[k].toNat : Int).toNat.toUInt8 = s[k] := by simp
        rw [e1, index_of (hfull.2 _), ← hp] at h
        exact h
      have hstep : frontL l (s.data.toList.drop k) = UInt8.ofNat p :: frontL (mtf l p) (s.data.toList.drop (k + 1)) := by
        rw [drop_byte s k hlt, frontL, ← hp]
      have HI := hide cI2
      have cW := hide (fun n => write_any (w1.heap.size + 1) (w1.heap.size + 1) (Lib.byteCells out) (p : Int) (wr.drewN n) hB (by rw [Lib.byteCells_length]; omega) hsz)
      have HF := hide hfull
      have HST := hide hstep
      have HP := hide hpc
      clear hB hfull hstep cI cI2 hp hpc
      go_wp2_with fail
      go_quiet ((go_at_call 66; exact Calls.quiet_of_same (HI.out _ rfl)))
      go_wp2_with (first
        | (go_at_call 63; refine (unhide cW _).mono ?_; rintro e w2 ⟨rfl, hb2, hbl2⟩; have cL := hide (lay_any w1.heap.size p l w2 HF.out.1 hpl ((hbl2.block _ (Nat.lt_succ_self _)).trans HL.out)))
        | (go_at_call 67; refine (unhide cL).mono ?_; rintro e w3 ⟨rfl, hl3, hg3⟩; have HL3 := hide hl3; clear hl3))
      go_roundw
      case rel =>
        have hbl3 : Below (w1.heap.size + 1) wr w2 := (below_drewN (Below.refl _ _) _).trans hbl2
        refine ⟨k + 1, mtf l p, out ++ [UInt8.ofNat p], by omega, by go_num, HL3, ?_, by simp; exact hok, HF.out.mtf hpl, (hbx.trans (hbl3.mono (by have := hb1.size; omega))).grown hg3 (by have := hb1.size; have := hbl3.size; omega) (fun j hj => by cases hj; exact hb1.size), ?_, ?_⟩
        · rw [← byteCells_snoc, ← HP.out]
          exact builder_kept (.inr hb2) hg3 (Nat.lt_succ_self _)
        · have := hbl3.size
          have := hg3.size
          omega
        · show _ = _
          rw [← HS.out, HST.out, List.append_assoc]
          rfl
      case measure => simp [intOf]; omega
    · go_wp2_with (go_at_call 64; refine (Tryz.Builder_String_any _ _ _ _ hB (by omega)).mono ?_; rintro e w' ⟨rfl, hb3⟩)
      go_ret
      have hend := HS.out
      rw [drop_end s k hlt, frontL, List.append_nil] at hend
      exact ⟨ret_str hend, hbx.trans (hb3.mono (by have := hb1.size; omega))⟩
end Go.Proofs.YtkiindkoiomieaaGreatDoor
end

section
/-
  P5: the walks of the document's Front and Behind.
-/
namespace Go.Proofs.YtkiindkoiomieaaGreatDoor
open Go.RowKit

theorem make_list (W : World) : (Instr.makeSlice 81 (.int .i64 256) (.int .i64 256)).run Tryz.prog W = .ok (.slice (some ⟨W.heap.size, 0, none⟩) 256 256) (W.alloc (.cells (cellsB (part 0)) 5)) := by
  obtain ⟨i0, hi, hz0, hz1, hz2⟩ := info_parts Tryz.info5
  have h := run_make (P := Tryz.prog) W 81 5 i0 (.int .u8 0) Tryz.underlying81 hi hz0 .i64 .i64 256 256 (by omega) (by omega) (by rw [hz2]; decide) (by decide)
  have e : madeCells (Value.int .u8 0).cells ((256 : Int).toNat * i0.size) = cellsB (part 0) := by
    rw [hz1]
    apply Array.ext'
    show (madeCells #[Value.int .u8 0] 256).toList = _
    rw [toList_madeCells_one]
    kernel_rfl
  rw [e] at h
  simpa using h

/-- The places above q, up to p, moved on by one. -/
def shift (l : List UInt8) (p q : Nat) : List UInt8 := (List.range 256).map fun i => if i ≤ q ∨ p < i then l[i]?.getD 0 else l[i - 1]?.getD 0

theorem shift_length (l : List UInt8) (p q : Nat) : (shift l p q).length = 256 := by simp [shift]

theorem shift_at (l : List UInt8) (p q : Nat) {i : Nat} (h : i < 256) : (shift l p q)[i]? = some (if i ≤ q ∨ p < i then l[i]?.getD 0 else l[i - 1]?.getD 0) := by
  simp [shift, h]

theorem shift_self {l : List UInt8} (h : l.length = 256) (p : Nat) : shift l p p = l := by
  apply List.ext_getElem?
  intro i
  by_cases hi : i < 256
  · rw [shift_at l p p hi, if_pos (by omega), List.getElem?_eq_getElem (by omega), Option.getD_some]
  · rw [List.getElem?_eq_none (by rw [shift_length]; omega), List.getElem?_eq_none (by omega)]

theorem shift_step {l : List UInt8} {p q : Nat} {d : UInt8} (hq : q + 1 ≤ p) (hp : p < 256) (hd : (shift l p (q + 1))[q]? = some d) : (shift l p (q + 1)).set (q + 1) d = shift l p q := by
  apply List.ext_getElem?
  intro i
  rw [List.getElem?_set]
  rw [shift_at l p (q + 1) (by omega), if_pos (by omega)] at hd
  by_cases hi : i < 256
  · by_cases hqi : q + 1 = i
    · subst hqi
      rw [if_pos rfl, if_pos (by rw [shift_length]; exact hi), shift_at l p q hi, if_neg (by omega), Nat.add_sub_cancel, hd]
    · rw [if_neg hqi, shift_at l p (q + 1) hi, shift_at l p q hi]
      by_cases h1 : i ≤ q ∨ p < i
      · rw [if_pos h1, if_pos (by omega)]
      · rw [if_neg h1, if_neg (by omega)]
  · rw [if_neg (by omega), List.getElem?_eq_none (by rw [shift_length]; omega), List.getElem?_eq_none (by rw [shift_length]; omega)]

theorem shift_end {l : List UInt8} {p : Nat} {c : UInt8} (hl : l.length = 256) (hp : p < 256) (hc : l[p]? = some c) : (shift l p 0).set 0 c = mtf l p := by
  apply List.ext_getElem?
  intro i
  rw [List.getElem?_set]
  unfold mtf
  rw [hc, Option.getD_some]
  cases i with
  | zero => rw [if_pos rfl, if_pos (by rw [shift_length]; omega)]; rfl
  | succ i =>
    rw [if_neg (by omega), List.getElem?_cons_succ]
    by_cases hi : i + 1 < 256
    · rw [shift_at l p 0 hi]
      by_cases h1 : i < p
      · rw [if_neg (by omega), List.getElem?_append_left (by simp; omega), List.getElem?_take_of_lt h1, Nat.add_sub_cancel, List.getElem?_eq_getElem (by omega), Option.getD_some]
      · rw [if_pos (by omega), List.getElem?_append_right (by simp; omega), List.getElem?_drop, List.length_take, Nat.min_eq_left (by omega), show p + 1 + (i - p) = i + 1 by omega, List.getElem?_eq_getElem (by omega), Option.getD_some]
    · rw [List.getElem?_eq_none (by rw [shift_length]; omega), List.getElem?_eq_none (by simp; omega)]

theorem conv_one (W : World) (n : Nat) (j : Nat) (hn : n < 256) : (convert 81 9 (.slice (some ⟨W.heap.size, 0, none⟩) 1 1)).run Tryz.prog ((W.drewN j).alloc (.cells #[.int .u8 (n : Int)] 5)) = .ok (.string ⟨#[UInt8.ofNat n]⟩) ((W.drewN j).alloc (.cells #[.int .u8 (n : Int)] 5)) := by
  have h := run_convert_bytes_back (P := Tryz.prog) ((W.drewN j).alloc (.cells #[.int .u8 (n : Int)] 5)) 81 9 5 ⟨W.heap.size, 0, none⟩ 1 [UInt8.ofNat n] Tryz.underlying81 Tryz.underlying5 Tryz.underlying9 (fun i hi => by
    have h0 : i = 0 := by simpa using hi
    subst h0
    have := World.cell?_alloc_mark (W.drewN j) #[.int .u8 (n : Int)] 5 (0, 0) 0
    rw [Addr.add_lit]
    rw [show (W.drewN j).heap.size = W.heap.size from rfl] at this
    rw [this]
    simp
    omega)
  simpa using h

theorem heap_lt {w : World} {g : Nat} {o : Obj} (h : w.heap[g]? = some o) : g < w.heap.size := (Array.getElem?_eq_some_iff.1 h).1

theorem push_data (tb : ByteArray) (c : UInt8) : (tb ++ (⟨#[c]⟩ : ByteArray)).data.toList = tb.data.toList ++ [c] := by
  rw [ByteArray.data_append, Array.toList_append]

theorem idx_here {l : List UInt8} {c d : UInt8} {j : Nat} (hj : j = l.idxOf c) (hd : l[j]? = some d) : d = c := by
  have hlt : j < l.length := (List.getElem?_eq_some_iff.1 hd).1
  rw [List.getElem?_eq_getElem hlt] at hd
  simp only [Option.some.injEq] at hd
  subst hj
  rw [← hd]
  exact List.getElem_idxOf hlt

theorem idx_ahead {l : List UInt8} {c d : UInt8} {j : Nat} (hj : j < l.idxOf c) (hd : l[j]? = some d) : d ≠ c := by
  intro e
  subst e
  have hlt : j < l.length := (List.getElem?_eq_some_iff.1 hd).1
  have := List.not_of_lt_findIdx hj
  rw [List.getElem?_eq_getElem hlt] at hd
  simp only [Option.some.injEq] at hd
  simp [hd] at this

theorem bne_bytes {c d : UInt8} (h : d ≠ c) : ((d.toNat : Int) != (c.toNat : Int)) = true := by
  rw [bne_iff_ne]
  intro e
  exact h (UInt8.toNat_inj.1 (by omega))

set_option maxHeartbeats 1000000 in
set_option maxRecDepth 100000 in
theorem refFront_any (s : ByteArray) (w : World) (hs : s.size ≤ 300) :
    Calls Tryz.prog 87 #[.string s] w fun e w' => e = .returned (.string ⟨(frontL (part 256) s.data.toList).toArray⟩) ∧ Below w.heap.size w w' := by
  have hmk := make_list
  go_enter Tryz.func87, Tryz.ntmps87
  go_wp2
  clear hmk
  go_loopw [4] (fun i wr => ∃ k : Nat, k ≤ 256 ∧ i = .int .i64 k ∧ Hid (wr.heap[w.heap.size]? = some (.cells (cellsB (part k)) 5 (0, 0))) ∧ Below w.heap.size w wr) (fun i _ => 256 - (intOf i).toNat)
  case atStart => exact ⟨0, by omega, rfl, heap_alloc_new _ _, (Below.refl _ _).alloc (Nat.le_refl _) _⟩
  case round =>
    obtain ⟨k, hk, rfl, HL, hbx⟩ := hrel
    by_cases hlt : k < 256
    · obtain ⟨c, hcc⟩ : ∃ c, (part k)[k]? = some c := ⟨_, List.getElem?_eq_getElem (by rw [part_length]; exact hlt)⟩
      have hcell := bl_cell HL.out hcc
      have hfr := frozen_of_row wr w.heap.size k _ 5 HL.out
      clear hcc
      go_wp2
      go_roundw
      case rel =>
        refine ⟨k + 1, by omega, by go_num, ?_, hbx.setCell (p := ⟨w.heap.size, k, none⟩) (Nat.le_refl _) _⟩
        show _ = _
        rw [heap_setCell_same _ _ _ _ _ _ HL.out]
        have e : (k : Int) = ((UInt8.ofNat k).toNat : Int) := by simp; omega
        rw [e, cellsB_set, part_set hlt]
      case measure => simp [intOf]; omega
    · have hk2 : k = 256 := by omega
      subst hk2
      go_wp2
      go_loopw [5, 6] (fun tv i wr => ∃ (k : Nat) (l : List UInt8) (tb : ByteArray), k ≤ s.size ∧ i = .int .i64 k ∧ tv = .string tb ∧ tb.size = k ∧ Hid (wr.heap[w.heap.size]? = some (.cells (cellsB l) 5 (0, 0))) ∧ Full l ∧ Below w.heap.size w wr ∧ Hid (tb.data.toList ++ frontL l (s.data.toList.drop k) = frontL (part 256) s.data.toList)) (fun _ i _ => s.size - (intOf i).toNat)
      case atStart => exact ⟨0, part 256, ⟨#[]⟩, Nat.zero_le _, rfl, rfl, rfl, HL, full_part, hbx, rfl⟩
      case round =>
        clear hbx HL hk hlt
        obtain ⟨k, l, tb, hk, rfl, rfl, htb, HL, hfull, hbx, HS⟩ := hrel
        by_cases hlt : k < s.size
        · obtain ⟨p, hp⟩ : ∃ p, p = l.idxOf s[k] := ⟨_, rfl⟩
          have hpl : p < 256 := by rw [hp]; exact idx_lt hfull _
          have HP := hide hp
          have HF := hide hfull
          clear hp hfull
          go_wp2
          go_loopw [7] (fun v w' => ∃ j n : Nat, j ≤ p ∧ v = .int .i64 j ∧ w' = wr.drewN n) (fun v _ => 256 - (intOf v).toNat)
          case atStart => exact ⟨0, 0, Nat.zero_le _, rfl, rfl⟩
          case round =>
            obtain ⟨j, n, hj, rfl, rfl⟩ := hrel
            obtain ⟨d, hd⟩ : ∃ d, l[j]? = some d := ⟨_, List.getElem?_eq_getElem (by rw [HF.out.1]; omega)⟩
            have hcell := bl_cell HL.out hd
            by_cases hjp : j < p
            · have hne : ((d.toNat : Int) != (s[k].toNat : Int)) = true := bne_bytes (idx_ahead (by rw [← HP.out]; exact hjp) hd)
              clear hd
              go_wp2_with fail
              go_quiet (fail)
              go_wp2
              go_roundw
              case rel => exact ⟨j + 1, _, by omega, by go_num, rfl⟩
              case measure => simp [intOf]; omega
            · have hjp2 : j = p := by omega
              subst hjp2
              have hdc := idx_here HP.out hd
              subst hdc
              have heq : ((s[k].toNat : Int) != (s[k].toNat : Int)) = false := by simp
              have HD := hide hd
              have hcv := fun m => conv_one wr j m hpl
              clear hd
              go_wp2_with fail
              go_quiet (fail)
              go_wp2
              clear hcv hcell heq
              have hgs : w.heap.size < wr.heap.size := heap_lt HL.out
              go_loopw [7] (fun v w' => ∃ q : Nat, q ≤ j ∧ v = .int .i64 q ∧ Hid (w'.heap[w.heap.size]? = some (.cells (cellsB (shift l j q)) 5 (0, 0))) ∧ Below w.heap.size w w') (fun v _ => (intOf v).toNat)
              case atStart => exact ⟨j, Nat.le_refl _, rfl, by show _ = _; rw [shift_self HF.out.1, Lib.alloc_old _ _ _ (by exact hgs)]; exact HL.out, (below_drewN hbx _).alloc (by exact Nat.le_of_lt hgs) _⟩
              case round =>
                clear hbx hgs
                obtain ⟨q, hq, rfl, HQ, hbq⟩ := hrel
                by_cases hq0 : 0 < q
                · obtain ⟨r, rfl⟩ : ∃ r, q = r + 1 := ⟨q - 1, by omega⟩
                  obtain ⟨d, hd⟩ : ∃ d, (shift l j (r + 1))[r]? = some d := ⟨_, List.getElem?_eq_getElem (by rw [shift_length]; omega)⟩
                  obtain ⟨d1, hd1⟩ : ∃ d1, (shift l j (r + 1))[r + 1]? = some d1 := ⟨_, List.getElem?_eq_getElem (by rw [shift_length]; omega)⟩
                  have hc0 := bl_cell HQ.out hd
                  have hc1 := bl_cell HQ.out hd1
                  have hf1 := frozen_of_row _ w.heap.size (r + 1) _ 5 HQ.out
                  have HD2 := hide hd
                  clear hd hd1
                  go_wp2
                  go_roundw
                  case rel => exact ⟨r, by omega, rfl, by show _ = _; rw [heap_setCell_same _ _ _ _ _ _ HQ.out, cellsB_set, shift_step hq hpl HD2.out], hbq.setCell (p := ⟨w.heap.size, r + 1, none⟩) (Nat.le_refl _) _⟩
                  case measure => simp [intOf]
                · have hqz : q = 0 := by omega
                  subst hqz
                  obtain ⟨d1, hd1⟩ : ∃ d1, (shift l j 0)[0]? = some d1 := ⟨_, List.getElem?_eq_getElem (by rw [shift_length]; omega)⟩
                  have hc1 := bl_cell HQ.out hd1
                  have hf1 := frozen_of_row _ w.heap.size 0 _ 5 HQ.out
                  clear hd1
                  go_wp2
                  go_roundw
                  case rel =>
                    refine ⟨k + 1, mtf l j, tb ++ ⟨#[UInt8.ofNat j]⟩, by omega, by go_num, rfl, by rw [ByteArray.size_append]; show tb.size + 1 = k + 1; omega, ?_, HF.out.mtf hpl, hbq.setCell (p := ⟨w.heap.size, 0, none⟩) (Nat.le_refl _) _, ?_⟩
                    · show _ = _
                      rw [heap_setCell_same _ _ _ _ _ _ HQ.out, cellsB_set, shift_end HF.out.1 hpl HD.out]
                    · show _ = _
                      rw [← HS.out, drop_byte s k hlt, frontL, ← HP.out, push_data, List.append_assoc]
                      rfl
                  case measure => simp [intOf]; omega
        · go_wp2
          go_ret
          have hend := HS.out
          rw [drop_end s k hlt, frontL, List.append_nil] at hend
          refine ⟨?_, hbx⟩
          rw [← hend]
          rfl

set_option maxHeartbeats 1000000 in
set_option maxRecDepth 100000 in
theorem refBehind_any (s : ByteArray) (w : World) (hs : s.size ≤ 300) :
    Calls Tryz.prog 88 #[.string s] w fun e w' => e = .returned (.string ⟨(behindL (part 256) s.data.toList).toArray⟩) ∧ Below w.heap.size w w' := by
  have hmk := make_list
  go_enter Tryz.func88, Tryz.ntmps88
  go_wp2
  clear hmk
  go_loopw [4] (fun i wr => ∃ k : Nat, k ≤ 256 ∧ i = .int .i64 k ∧ Hid (wr.heap[w.heap.size]? = some (.cells (cellsB (part k)) 5 (0, 0))) ∧ Below w.heap.size w wr) (fun i _ => 256 - (intOf i).toNat)
  case atStart => exact ⟨0, by omega, rfl, heap_alloc_new _ _, (Below.refl _ _).alloc (Nat.le_refl _) _⟩
  case round =>
    obtain ⟨k, hk, rfl, HL, hbx⟩ := hrel
    by_cases hlt : k < 256
    · obtain ⟨c, hcc⟩ : ∃ c, (part k)[k]? = some c := ⟨_, List.getElem?_eq_getElem (by rw [part_length]; exact hlt)⟩
      have hcell := bl_cell HL.out hcc
      have hfr := frozen_of_row wr w.heap.size k _ 5 HL.out
      clear hcc
      go_wp2
      go_roundw
      case rel =>
        refine ⟨k + 1, by omega, by go_num, ?_, hbx.setCell (p := ⟨w.heap.size, k, none⟩) (Nat.le_refl _) _⟩
        show _ = _
        rw [heap_setCell_same _ _ _ _ _ _ HL.out]
        have e : (k : Int) = ((UInt8.ofNat k).toNat : Int) := by simp; omega
        rw [e, cellsB_set, part_set hlt]
      case measure => simp [intOf]; omega
    · have hk2 : k = 256 := by omega
      subst hk2
      go_wp2
      go_loopw [5, 6] (fun tv i wr => ∃ (k : Nat) (l : List UInt8) (tb : ByteArray), k ≤ s.size ∧ i = .int .i64 k ∧ tv = .string tb ∧ tb.size = k ∧ Hid (wr.heap[w.heap.size]? = some (.cells (cellsB l) 5 (0, 0))) ∧ Full l ∧ Below w.heap.size w wr ∧ Hid (tb.data.toList ++ behindL l (s.data.toList.drop k) = behindL (part 256) s.data.toList)) (fun _ i _ => s.size - (intOf i).toNat)
      case atStart => exact ⟨0, part 256, ⟨#[]⟩, Nat.zero_le _, rfl, rfl, rfl, HL, full_part, hbx, rfl⟩
      case round =>
        clear hbx HL hk hlt
        obtain ⟨k, l, tb, hk, rfl, rfl, htb, HL, hfull, hbx, HS⟩ := hrel
        by_cases hlt : k < s.size
        · have hpl : s[k].toNat < 256 := by have := s[k].toNat_lt; omega
          obtain ⟨c, hd⟩ : ∃ c, l[s[k].toNat]? = some c := ⟨_, List.getElem?_eq_getElem (by rw [hfull.1]; exact hpl)⟩
          have hcell := bl_cell HL.out hd
          have hcv := conv_one wr c.toNat 0 (by have := c.toNat_lt; omega)
          rw [World.drewN_zero, show UInt8.ofNat c.toNat = c by simp] at hcv
          have hstep : behindL l (s.data.toList.drop k) = c :: behindL (mtf l s[k].toNat) (s.data.toList.drop (k + 1)) := by
            rw [drop_byte s k hlt, behindL, hd, Option.getD_some]
          have HST := hide hstep
          have HD := hide hd
          have HF := hide hfull
          clear hd hfull hstep
          go_wp2
          clear hcv hcell
          have hgs : w.heap.size < wr.heap.size := heap_lt HL.out
          go_loopw [7] (fun v w' => ∃ q : Nat, q ≤ s[k].toNat ∧ v = .int .i64 q ∧ Hid (w'.heap[w.heap.size]? = some (.cells (cellsB (shift l s[k].toNat q)) 5 (0, 0))) ∧ Below w.heap.size w w') (fun v _ => (intOf v).toNat)
          case atStart => exact ⟨s[k].toNat, Nat.le_refl _, rfl, by show _ = _; rw [shift_self HF.out.1, Lib.alloc_old _ _ _ (by exact hgs)]; exact HL.out, hbx.alloc (by exact Nat.le_of_lt hgs) _⟩
          case round =>
            clear hbx hgs
            obtain ⟨q, hq, rfl, HQ, hbq⟩ := hrel
            by_cases hq0 : 0 < q
            · obtain ⟨r, rfl⟩ : ∃ r, q = r + 1 := ⟨q - 1, by omega⟩
              obtain ⟨d, hd⟩ : ∃ d, (shift l s[k].toNat (r + 1))[r]? = some d := ⟨_, List.getElem?_eq_getElem (l := shift l s[k].toNat (r + 1)) (i := r) (by have := shift_length l s[k].toNat (r + 1); omega)⟩
              obtain ⟨d1, hd1⟩ : ∃ d1, (shift l s[k].toNat (r + 1))[r + 1]? = some d1 := ⟨_, List.getElem?_eq_getElem (l := shift l s[k].toNat (r + 1)) (i := r + 1) (by have := shift_length l s[k].toNat (r + 1); omega)⟩
              have hc0 := bl_cell HQ.out hd
              have hc1 := bl_cell HQ.out hd1
              have hf1 := frozen_of_row _ w.heap.size (r + 1) _ 5 HQ.out
              have HD2 := hide hd
              clear hd hd1
              go_wp2
              go_roundw
              case rel => exact ⟨r, by omega, rfl, by show _ = _; rw [heap_setCell_same _ _ _ _ _ _ HQ.out, cellsB_set, shift_step hq hpl HD2.out], hbq.setCell (p := ⟨w.heap.size, r + 1, none⟩) (Nat.le_refl _) _⟩
              case measure => simp [intOf]
            · have hqz : q = 0 := by omega
              subst hqz
              obtain ⟨d1, hd1⟩ : ∃ d1, (shift l s[k].toNat 0)[0]? = some d1 := ⟨_, List.getElem?_eq_getElem (l := shift l s[k].toNat 0) (i := 0) (by have := shift_length l s[k].toNat 0; omega)⟩
              have hc1 := bl_cell HQ.out hd1
              have hf1 := frozen_of_row _ w.heap.size 0 _ 5 HQ.out
              clear hd1
              go_wp2
              go_roundw
              case rel =>
                refine ⟨k + 1, mtf l s[k].toNat, tb ++ ⟨#[c]⟩, by omega, by go_num, rfl, by rw [ByteArray.size_append]; show tb.size + 1 = k + 1; omega, ?_, HF.out.mtf hpl, hbq.setCell (p := ⟨w.heap.size, 0, none⟩) (Nat.le_refl _) _, ?_⟩
                · show _ = _
                  rw [heap_setCell_same _ _ _ _ _ _ HQ.out, cellsB_set, shift_end HF.out.1 hpl HD.out]
                · show _ = _
                  rw [← HS.out, HST.out, push_data, List.append_assoc]
                  rfl
              case measure => simp [intOf]; omega
        · go_wp2
          go_ret
          have hend := HS.out
          rw [drop_end s k hlt, behindL, List.append_nil] at hend
          refine ⟨?_, hbx⟩
          rw [← hend]
          rfl
end Go.Proofs.YtkiindkoiomieaaGreatDoor
end

