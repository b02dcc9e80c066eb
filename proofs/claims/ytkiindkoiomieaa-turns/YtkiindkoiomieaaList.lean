/-
  P5: a list of 256 bytes in a block: sortedBytes, layFirst.
-/
import Derived.Test.YtkiindkoiomieaaBuild
import Derived.Laws.CopyOwn
import Derived.Deep.RegionLaw
namespace Go.Proofs.Ytkiindkoiomieaa
open Go.RowKit

/-- Bytes as cells. -/
def cellsB (l : List UInt8) : Array Value := (l.map fun b => Value.int .u8 b.toNat).toArray
/-- The first k bytes by their worth, zeros behind them. -/
def part (k : Nat) : List UInt8 := (List.range 256).map fun i => if i < k then UInt8.ofNat i else 0

theorem cellsB_size (l : List UInt8) : (cellsB l).size = l.length := by simp [cellsB]
theorem part_length (k : Nat) : (part k).length = 256 := by simp [part]
theorem cellsB_at {l : List UInt8} {j : Nat} {c : UInt8} (h : l[j]? = some c) : (cellsB l)[j]? = some (.int .u8 c.toNat) := by simp [cellsB, h]
theorem cellsB_set (l : List UInt8) (k : Nat) (c : UInt8) : (cellsB l).setIfInBounds k (.int .u8 c.toNat) = cellsB (l.set k c) := by
  simp [cellsB, List.map_set]
theorem part_set {k : Nat} (h : k < 256) : (part k).set k (UInt8.ofNat k) = part (k + 1) := by
  apply List.ext_getElem?
  intro i
  rw [List.getElem?_set]
  by_cases hi : k = i
  · subst hi
    simp [part, h]
  · rw [if_neg hi]
    by_cases h2 : i < 256
    · simp only [part, List.getElem?_map, List.getElem?_range h2, Option.map_some, Option.some.injEq]
      by_cases h3 : i < k
      · rw [if_pos h3, if_pos (by omega)]
      · rw [if_neg h3, if_neg (by omega)]
    · have e : ∀ n, (part n)[i]? = none := fun n => List.getElem?_eq_none (by rw [part_length]; omega)
      rw [e, e]

theorem bl_cell {w : World} {g : Nat} {l : List UInt8} {t : TypeId} {fr : Nat × Nat} (h : w.heap[g]? = some (.cells (cellsB l) t fr)) {j : Nat} {c : UInt8} (hc : l[j]? = some c) : w.cell? ⟨g, j, none⟩ = some (.int .u8 c.toNat) := by
  rw [cell_of_row w g j _ t fr h]
  exact cellsB_at hc

theorem Try.zero86 : (Try.prog.info? 86).bind (fun i => i.zero) = some (.agg (cellsB (part 0))) := by kernel_rfl
theorem Try.size86 : (Try.prog.info? 86).map (·.size) = some 256 := by kernel_rfl
theorem zv71 (w : World) : Sem.run Try.prog (zeroValue 86) w = .ok (.agg (cellsB (part 0))) w := by
  have h := Try.zero86
  cases hi : Try.prog.info? 86 with
  | none => rw [hi] at h; cases h
  | some i =>
    rw [hi] at h
    have h : i.zero = some (.agg (cellsB (part 0))) := h
    simp [zeroValue, typeInfo, hi, h, go_sem]

theorem all_one (l : List UInt8) : (cellsB l).all (·.oneCell') = true := by
  simp [cellsB, Value.oneCell']

set_option maxHeartbeats 1000000 in
set_option maxRecDepth 100000 in
theorem sorted_any (w : World) :
    Calls Try.prog 56 #[] w fun e w' => e = .returned (.agg (cellsB (part 256))) ∧ Below w.heap.size w w' := by
  have hz := zv71
  go_enter Try.func56, Try.ntmps56
  go_wp2
  clear hz
  go_loopw [3] (fun i wr => ∃ k : Nat, k ≤ 256 ∧ i = .int .i64 k ∧ wr.heap[w.heap.size]? = some (.cells (cellsB (part 0)) 86 (0, 0)) ∧ wr.heap[w.heap.size + 1]? = some (.cells (cellsB (part k)) 86 (0, 0)) ∧ Below w.heap.size w wr) (fun i _ => 256 - (intOf i).toNat)
  case atStart => exact ⟨0, by omega, rfl, heap_alloc2_old _ _ _, heap_alloc2_new _ _ _, ((Below.refl _ _).alloc (Nat.le_refl _) _).alloc (by simp) _⟩
  case round =>
    obtain ⟨k, hk, rfl, hz0, hc, hbx⟩ := hrel
    by_cases hlt : k < 256
    · obtain ⟨c, hcc⟩ : ∃ c, (part k)[k]? = some c := ⟨_, List.getElem?_eq_getElem (by rw [part_length]; exact hlt)⟩
      have hcell := bl_cell hc hcc
      have hfr := frozen_of_row wr (w.heap.size + 1) k _ 86 hc
      have HZ := hide hz0
      have HC := hide hc
      clear hz0 hc hcc
      go_wp2
      go_roundw
      case rel =>
        refine ⟨k + 1, by omega, by go_num, ?_, ?_, hbx.setCell (p := ⟨w.heap.size + 1, k, none⟩) (by simp) _⟩
        · rw [heap_setCell_other _ _ _ _ (by simp)]
          exact HZ.out
        · rw [heap_setCell_same _ _ _ _ _ _ HC.out]
          have e : (k : Int) = ((UInt8.ofNat k).toNat : Int) := by simp; omega
          rw [e, cellsB_set, part_set hlt]
      case measure => simp [intOf]; omega
    · have hk2 : k = 256 := by omega
      subst hk2
      have HZ := hide hz0
      have HC := hide hc
      clear hz0 hc
      go_wp2_with (first
        | (refine wpList_load_row rfl 86 (.tmp 1) rfl (w.heap.size + 1) rfl 86 _ (0, 0) _ HC.out Try.underlying86 rfl (by rw [cellsB_size, part_length]; exact Try.size86) ?_)
        | (refine wpList_store_row rfl 86 (.tmp 0) (.tmp 11) rfl w.heap.size (cellsB (part 256)) rfl rfl 86 _ HZ.out (by rw [cellsB_size, part_length]; exact Try.size86) (by rw [cellsB_size, cellsB_size, part_length, part_length]) (all_one _) ?_))
      refine bodyPost_ret (v := .agg (cellsB (part 256))) ?_ rfl ⟨rfl, below_setRow hbx (Nat.le_refl _) _⟩
      exact results_cell_row rfl _ _ w.heap.size 86 _ (0, 0) _ rfl (setRow_heap wr _ _ _ _ _ HZ.out) Try.underlying86 rfl (by rw [cellsB_size, part_length]; exact Try.size86)

/-- copy within a row that is known whole, as one step of a region that draws: what the world is behind it. -/
theorem step_copy_row {P : Program} {ops : Array Oper} {o : Oper} {a : Act} {w : World} {K : Act → World → Prop} {Q : Exit → Act → World → Prop} {E : Prop} (hgd : o.guard = none) (d s : Operand) (dT sT : TypeId)
    (ho : o.op = .call { callee := .builtin .copy, args := #[d, s], argTypes := #[dT, sT] }) (elem : TypeId) (hu : P.underlying dT = some (.slice elem)) (hsz : (P.info? elem).map (·.size) = some 1)
    (g off soff n dCap sCap : Nat) (hd : a.eval d = .slice (some ⟨g, off, none⟩) n dCap) (hs : a.eval s = .slice (some ⟨g, soff, none⟩) n sCap)
    (cur : List Value) (t : TypeId) (hg : w.heap[g]? = some (.cells cur.toArray t (0, 0)))
    (hfit : off + n ≤ cur.length) (hsf : soff + n ≤ cur.length) (h1 : ∀ v ∈ cur, v.oneCell' = true)
    (X : Array Value) (hX : X = (splice cur off ((cur.drop soff).take n)).toArray) (h : K (a.put o.dst (goInt n)) (w.setRow g X)) :
    if Region.wanted o (yielded ops a.tmps) = true then Oper.wp P o a w K Q else E := by
  have hw : Region.wanted o (yielded ops a.tmps) = true := by simp [Region.wanted, hgd]
  rw [if_pos hw]
  have hl : ((cur.drop soff).take n).length = n := by simp; omega
  have hrun := run_copy_row (P := P) w dT sT o.type elem g off n dCap ⟨g, soff, none⟩ n sCap cur.toArray t ((cur.drop soff).take n) hu hsz hg (by rw [hl]; exact (Nat.min_self n).symm)
    (fun j v hv => by
      have hj : j < n := by have := (List.getElem?_eq_some_iff.1 hv).1; omega
      rw [Addr.add_lit, cell_of_row w g _ _ t _ hg]
      simpa [hj] using hv) (by rw [hl]; simpa using hfit) (fun v hv => h1 v (List.mem_of_mem_drop (List.mem_of_mem_take hv)))
  rw [hl] at hrun
  have e : (cur.toArray.toList.take off ++ (cur.drop soff).take n ++ cur.toArray.toList.drop (off + n)).toArray = (splice cur off ((cur.drop soff).take n)).toArray := by
    rw [splice, hl, List.append_assoc]
  rw [e, ← hX] at hrun
  unfold Oper.wp
  simp [execOp, ho, resolve, invoke, builtin, hd, hs, hrun, Result.andThen]
  exact h

/-- The byte at place p is laid first. -/
def mtf (l : List UInt8) (p : Nat) : List UInt8 := (l[p]?.getD 0) :: (l.take p ++ l.drop (p + 1))

theorem mtf_length {l : List UInt8} {p : Nat} (h : p < l.length) : (mtf l p).length = l.length := by simp [mtf]; omega

theorem Try.size5 : (Try.prog.info? 5).map (·.size) = some 1 := by kernel_rfl

theorem mtf_cells {l : List UInt8} {p : Nat} {c : UInt8} (h : l[p]? = some c) :
    (splice (cellsB l).toList 1 (((cellsB l).toList.drop 0).take p)).toArray.setIfInBounds 0 (.int .u8 c.toNat) = cellsB (mtf l p) := by
  have hp : p < l.length := (List.getElem?_eq_some_iff.1 h).1
  obtain ⟨x, r, rfl⟩ : ∃ x r, l = x :: r := by
    cases l with
    | nil => simp at hp
    | cons x r => exact ⟨x, r, rfl⟩
  simp at hp
  simp [splice, cellsB, mtf, h, List.map_take, List.map_drop, Nat.min_eq_left (by omega : p ≤ r.length + 1), Nat.add_comm 1 p]

set_option maxHeartbeats 1000000 in
set_option maxRecDepth 100000 in
theorem lay_any (b p : Nat) (l : List UInt8) (w : World) (hl : l.length = 256) (hp : p < 256) (hb : w.heap[b]? = some (.cells (cellsB l) 86 (0, 0))) :
    Calls Try.prog 58 #[.pointer (some ⟨b, 0, none⟩), .int .i64 p] w fun e w' => e = .returned (.tuple #[]) ∧ w'.heap[b]? = some (.cells (cellsB (mtf l p)) 86 (0, 0)) ∧ w.grownBy w' (some b) := by
  obtain ⟨c, hc⟩ : ∃ c, l[p]? = some c := ⟨_, List.getElem?_eq_getElem (by omega)⟩
  have hcell := bl_cell hb hc
  have HB := hide hb
  have hcl : (cellsB l).toList.length = 256 := by simp [cellsB, hl]
  obtain ⟨C, hC⟩ : ∃ C, (cellsB l).toList = C := ⟨_, rfl⟩
  have HC := hide hC
  have hb' : w.heap[b]? = some (.cells C.toArray 86 (0, 0)) := by rw [hb, ← hC]
  have hC1 : ∀ v ∈ C, v.oneCell' = true := by
    rw [← hC]
    intro v hv
    simp [cellsB] at hv
    obtain ⟨a, _, rfl⟩ := hv
    rfl
  rw [hC] at hcl
  have H1 := hide hC1
  have HB' := hide hb'
  have hwr : IntKind.i64.wrap ((p : Int) + 1) = (p : Int) + 1 := IntWalk.i64_in _ (by omega)
  have hk1 : (1 : Int) ≤ (p : Int) + 1 := by omega
  have hk2 : (p : Int) + 1 ≤ 256 := by omega
  have hk3 : (p : Int) ≤ 256 := by omega
  obtain ⟨X, hX⟩ : ∃ X, X = (splice C 1 ((C.drop 0).take p)).toArray := ⟨_, rfl⟩
  have hXs : 0 < X.size := by rw [hX, List.size_toArray, length_splice _ _ _ (by simp; omega)]; omega
  have hrow : ∀ W : World, W.heap = w.heap → (W.setRow b X).heap[b]? = some (.cells X 86 (0, 0)) := fun W hW => setRow_heap W b C.toArray X 86 _ (by rw [hW]; exact hb')
  have hc0 : (w.drew.setRow b X).cell? ⟨b, 0, none⟩ = some X[0] := by
    rw [cell_of_row _ b 0 X 86 _ (hrow w.drew rfl)]
    exact Array.getElem?_eq_getElem hXs
  have hf0 : (w.drew.setRow b X).frozen? ⟨b, 0, none⟩ = false := frozen_of_row _ b 0 X 86 (hrow w.drew rfl)
  have hend : ((w.drew.setRow b X).setCell ⟨b, 0, none⟩ (.int .u8 c.toNat)).heap[b]? = some (.cells (cellsB (mtf l p)) 86 (0, 0)) := by
    rw [heap_setCell_same _ b 0 X 86 _ (hrow w.drew rfl), hX, ← hC, mtf_cells hc]
  have hgr : w.grownBy ((w.drew.setRow b X).setCell ⟨b, 0, none⟩ (.int .u8 c.toNat)) (some b) := by
    refine ⟨rfl, rfl, rfl, by simp, fun k hk hne => ?_⟩
    have hkb : k ≠ b := fun e => hne (by rw [e])
    rw [heap_setCell_other _ _ _ _ (by exact hkb), setRow_other _ _ _ _ hkb]
    rfl
  have HX := hide hX
  have HE := hide hend
  have HR := hide hgr
  clear hb hc hC hC1 hb' hX hrow hend hgr
  go_enter Try.func58, Try.ntmps58
  go_wp2
  go_region_law (refine step_copy_row rfl (.tmp 14) (.tmp 18) 63 63 rfl 5 Try.underlying63 Try.size5 b 1 0 p 255 256 (by simp [Act.eval, Act.put]) (by simp [Act.eval, Act.put]) C 86 HB'.out (by omega) (by omega) H1.out X HX.out ?_)
  go_wp2
  go_end0
  exact ⟨rfl, HE.out, HR.out⟩
end Go.Proofs.Ytkiindkoiomieaa
