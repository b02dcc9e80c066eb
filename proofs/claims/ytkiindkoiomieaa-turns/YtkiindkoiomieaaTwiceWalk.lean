/-
  P4: the walk of readTwice.
-/
import Derived.Test.YtkiindkoiomieaaBackRows
import Derived.BigRegion
namespace Go.Proofs.Ytkiindkoiomieaa
open Go.RowKit Go.Lib

set_option maxHeartbeats 2000000 in
set_option maxRecDepth 100000 in
theorem twice_any (gr cr go co n : Nat) (rk on : Nat → Nat) (w : World) (hn : n ≤ 300) (hgr : gr < w.heap.size) (hgo : go < w.heap.size) (hr : ∀ x, x < n → w.cell? ⟨gr, x, none⟩ = some (.int .i64 (rk x : Int))) (ho : ∀ x, x < n → w.cell? ⟨go, x, none⟩ = some (.int .i64 (on x : Int))) (hrk : ∀ x, x < n → rk x ≤ 300) (hon : ∀ x, x < n → on x < n) :
    Calls Try.prog 63 #[.slice (some ⟨gr, 0, none⟩) n cr, .slice (some ⟨go, 0, none⟩) n co] w fun e w' => ∃ g1 g2 rk', e = .returned (.tuple #[.slice (some ⟨g1, 0, none⟩) n n, .slice (some ⟨g2, 0, none⟩) n n]) ∧ NumsAt w' g1 ((List.range n).map rk') ∧ NumsAt w' g2 ((List.range n).map fun x => on (on x)) ∧ Below w.heap.size w w' ∧ (∀ x, x < n → rk' x < n) ∧ ∀ x y, x < n → y < n → (rk' x < rk' y ↔ rk x < rk y ∨ (rk x = rk y ∧ rk (on x) < rk (on y))) := by
  obtain ⟨cs, hmk, hsize, hlie⟩ := make_pairs n (by omega)
  have hmi := make_ints n (by omega)
  have HLI := hide hlie
  have HR := hide hr
  have HO := hide ho
  have HRK := hide hrk
  have HON := hide hon
  obtain ⟨f, hf⟩ : ∃ f : Nat → Int × Int, f = fun j => (((rk j : Nat) : Int), ((rk (on j) : Nat) : Int)) := ⟨_, rfl⟩
  have HF := hide hf
  clear hlie hsize hr ho hrk hon hf
  go_enter Try.func63, Try.ntmps63
  go_wp2
  clear hmk hmi
  go_loopw [17] (fun kv wr => ∃ k : Nat, k ≤ n ∧ kv = .int .i64 k ∧ Hid (Lies wr w.heap.size (fillP f n k)) ∧ Hid (NumsAt wr (w.heap.size + 1) (fill (fun x => on (on x)) n k)) ∧ Below w.heap.size w wr) (fun kv _ => n - (intOf kv).toNat)
  case atStart =>
    refine ⟨0, by omega, rfl, ?_, ?_, ((Below.refl _ _).alloc (Nat.le_refl _) _).alloc (by simp) _⟩
    · rw [← fillP_zero]
      refine hide (HLI.out _ _ ?_)
      rw [Lib.alloc_old _ _ _ (by simp)]
      exact heap_alloc_new _ _
    · rw [fill_zero]
      apply hide
      have := heap_alloc_new (w.alloc (.cells cs 78)) (.cells (cellsN (List.replicate n 0)) 3)
      simpa [NumsAt] using this
  case round =>
    obtain ⟨k, hk, rfl, HL, HN, hbx⟩ := hrel
    by_cases hlt : k < n
    · obtain ⟨c1, c2⟩ := HL.out.cell (j := k) (by rw [fillP_size]; exact hlt)
      generalize (fillP f n k)[k]! = old at c1 c2
      have f1 := HL.out.frozen (k * 2)
      have f2 := HL.out.frozen (k * 2 + 1)
      have c3 := cell_here HN.out (cellsN_at (fill_at (fun x => on (on x)) (k := k) hlt))
      rw [if_neg (Nat.lt_irrefl k)] at c3
      have f3 := frozen_of_row _ (w.heap.size + 1) k _ _ HN.out
      have hmn := HON.out k hlt
      have d1 := (hbx.cell (p := ⟨go, k, none⟩) hgo).trans (HO.out k hlt)
      have d2 := (hbx.cell (p := ⟨gr, k, none⟩) hgr).trans (HR.out k hlt)
      have d3 := (hbx.cell (p := ⟨gr, on k, none⟩) hgr).trans (HR.out _ hmn)
      have d4 := (hbx.cell (p := ⟨go, on k, none⟩) hgo).trans (HO.out _ hmn)
      obtain ⟨m, hm⟩ : ∃ m, m = on k := ⟨_, rfl⟩
      obtain ⟨a, ha⟩ : ∃ a, a = rk k := ⟨_, rfl⟩
      obtain ⟨b, hb⟩ : ∃ b, b = rk (on k) := ⟨_, rfl⟩
      obtain ⟨z, hz⟩ : ∃ z, z = on (on k) := ⟨_, rfl⟩
      rw [← hb, ← hm] at d3
      rw [← hz, ← hm] at d4
      rw [← hm] at d1 hmn
      rw [← ha] at d2
      have HM := hide hm
      have HA := hide ha
      have HB := hide hb
      have HZ := hide hz
      have i1 : (0 : Int) ≤ (k : Int) := by omega
      have i2 : (k : Int) < (n : Int) := by omega
      have i3 : (0 : Int) ≤ (m : Int) := by omega
      have i4 : (m : Int) < (n : Int) := by omega
      have n1 : gr ≠ w.heap.size := by omega
      have n2 : go ≠ w.heap.size := by omega
      have n3 : gr ≠ w.heap.size + 1 := by omega
      have n4 : go ≠ w.heap.size + 1 := by omega
      clear hm ha hb hz
      go_wp2_with fail
      go_region
      go_wp2
      go_roundw
      case rel =>
        have hL2 := HL.out.set (i := k) (by rw [fillP_size]; exact hlt) (a : Int) (b : Int)
        have e : ((a : Int), (b : Int)) = f k := by rw [HF.out, HA.out, HB.out]
        rw [e, fillP_set] at hL2
        have hN2 : ((wr.setCell ⟨w.heap.size, k * 2, none⟩ (.int .i64 (a : Int))).setCell ⟨w.heap.size, k * 2 + 1, none⟩ (.int .i64 (b : Int))).heap[w.heap.size + 1]? = some (.cells (cellsN (fill (fun x => on (on x)) n k)) 3 (0, 0)) := by
          rw [heap_setCell_other _ _ _ _ (by simp), heap_setCell_other _ _ _ _ (by simp)]
          exact HN.out
        refine ⟨k + 1, by omega, by go_num, ?_, ?_, ?_⟩
        · exact hide (hL2.kept (heap_setCell_other _ _ _ _ (by simp)))
        · apply hide
          have := heap_setCell_same _ _ k _ _ (.int .i64 (z : Int)) hN2
          rw [cellsN_set, HZ.out] at this
          have e2 := fill_set (fun x => on (on x)) n k
          rw [e2] at this
          rw [HZ.out]
          exact this
        · exact below_drewN (((hbx.setCell (p := ⟨w.heap.size, k * 2, none⟩) (Nat.le_refl _) _).setCell (p := ⟨w.heap.size, k * 2 + 1, none⟩) (Nat.le_refl _) _).setCell (p := ⟨w.heap.size + 1, k, none⟩) (Nat.le_succ _) _) 1
      case measure => simp [intOf]; omega
    · have hkd : k = n := by omega
      have hL := HL.out
      rw [hkd] at hL
      have hN := HN.out
      rw [hkd] at hN
      have hsz := fillP_size f n n
      have cR := ranks_any w.heap.size n (fillP f n n) wr (by rw [hsz]; omega) hL (fillP_wf fun j hj => by
        rw [HF.out]
        have h1 := HRK.out j hj
        have h2 := HRK.out _ (HON.out j hj)
        exact ⟨WalkArith.wf_i64 (by simp only; omega), WalkArith.wf_i64 (by simp only; omega)⟩)
      rw [hsz] at cR
      have CR := hide cR
      have HN2 := hide hN
      have hlt2 := heap_lt0 hN
      clear cR hL hsz HL hkd HN hN
      go_wp2_with (go_at_call 67; refine CR.out.mono ?_; rintro e w1 ⟨g', p, rfl, hN, hg', hb1, hR⟩)
      go_ret2
      refine ⟨g', w.heap.size + 1, p, rfl, hN, ?_, hbx.trans (hb1.mono hbx.size), fun x hx => ?_, fun x y hx hy => ?_⟩
      · unfold NumsAt
        rw [hb1.block _ hlt2]
        have := HN2.out
        have e : fill (fun x => on (on x)) n n = (List.range n).map fun x => on (on x) := by
          unfold fill
          exact List.map_congr_left fun j hj => by rw [if_pos (List.mem_range.1 hj)]
        rw [e] at this
        exact this
      · have := hR.lt x (by rw [fillP_size]; exact hx)
        rwa [fillP_size] at this
      · rw [hR.ord x y (by rw [fillP_size]; exact hx) (by rw [fillP_size]; exact hy), fillP_at f hx, fillP_at f hy, HF.out, ltP_iff]
        simp only
        omega
end Go.Proofs.Ytkiindkoiomieaa
