/-
  P4: the walk of readingRanks.
-/
import Derived.Test.YtkiindkoiomieaaTwiceWalk
import Derived.Test.YtkiindkoiomieaaNextWalk
import Derived.Test.YtkiindkoiomieaaBackWalk
namespace Go.Proofs.Ytkiindkoiomieaa
open Go.RowKit Go.Lib

set_option maxHeartbeats 2000000 in
set_option maxRecDepth 100000 in
theorem ranking_any (s : ByteArray) (ws : List (List UInt8)) (gn cn : Nat) (w : World) (hs : s.size ≤ 300) (hf : ws.flatten = s.data.toList) (hgn : gn < w.heap.size) (hc : ∀ x, x < s.size → w.cell? ⟨gn, x, none⟩ = some (.int .i64 (Tur.nx ws x : Int))) :
    Calls Try.prog 50 #[.string s, .slice (some ⟨gn, 0, none⟩) s.size cn] w fun e w' => ∃ g N rk, e = .returned (.slice (some ⟨g, 0, none⟩) s.size s.size) ∧ NumsAt w' g ((List.range s.size).map rk) ∧ s.size ≤ N ∧ Tur.RankN ws N rk ∧ (∀ x, x < s.size → rk x ≤ 300) ∧ Below w.heap.size w w' := by
  have hsum : ws.flatten.length = s.size := by rw [hf, ← Lib.size_eq]
  have hmi := make_ints s.size (by omega)
  have HS := hide hsum
  have HF := hide hf
  have HC := hide hc
  clear hsum hf hc
  go_enter Try.func50, Try.ntmps50
  go_wp2
  clear hmi
  go_loopw [13] (fun kv wr => ∃ k : Nat, k ≤ s.size ∧ kv = .int .i64 k ∧ Hid (NumsAt wr w.heap.size (fill (Duv.bt ws.flatten) s.size k)) ∧ Below w.heap.size w wr) (fun kv _ => s.size - (intOf kv).toNat)
  case atStart => exact ⟨0, by omega, rfl, by rw [fill_zero]; exact hide (heap_alloc_new _ _), (Below.refl _ _).alloc (Nat.le_refl _) _⟩
  case round =>
    obtain ⟨k, hk, rfl, HN, hbx⟩ := hrel
    by_cases hlt : k < s.size
    · have c1 := cell_here HN.out (cellsN_at (fill_at (Duv.bt ws.flatten) (k := k) hlt))
      rw [if_neg (Nat.lt_irrefl k)] at c1
      have f1 := frozen_of_row _ w.heap.size k _ _ HN.out
      go_wp2
      go_roundw
      case rel =>
        refine ⟨k + 1, by omega, by go_num, ?_, hbx.setCell (p := ⟨w.heap.size, k, none⟩) (Nat.le_refl _) _⟩
        apply hide
        unfold NumsAt
        rw [wrap64_byte, heap_setCell_same _ _ _ _ _ _ HN.out, cellsN_set, byte_bt s k hlt, ← HF.out, fill_set]
      case measure => simp [intOf]; omega
    · have hkd : k = s.size := by omega
      have hN := HN.out
      have e : fill (Duv.bt ws.flatten) s.size s.size = (List.range s.size).map (Duv.bt ws.flatten) := by
        unfold fill
        exact List.map_congr_left fun j hj => by rw [if_pos (List.mem_range.1 hj)]
      rw [hkd, e] at hN
      have HN2 := hide hN
      have hg0 := heap_lt0 hN
      clear hkd e hN HN
      go_wp2
      go_loopw [1, 5, 7] (fun ov rv nv wr => ∃ (N go co gr : Nat) (rk : Nat → Nat), ov = .slice (some ⟨go, 0, none⟩) s.size co ∧ rv = .slice (some ⟨gr, 0, none⟩) s.size s.size ∧ nv = .int .i64 N ∧ 1 ≤ N ∧ N ≤ 600 ∧ go < wr.heap.size ∧ gr < wr.heap.size ∧ Hid (NumsAt wr gr ((List.range s.size).map rk)) ∧ Hid (∀ x, x < s.size → wr.cell? ⟨go, x, none⟩ = some (.int .i64 (Tur.it (Tur.nx ws) N x : Nat))) ∧ Hid (Tur.RankN ws N rk) ∧ Hid (∀ x, x < s.size → rk x ≤ 300) ∧ Below w.heap.size w wr) (fun _ _ nv _ => s.size - (intOf nv).toNat)
      case atStart =>
        refine ⟨1, gn, cn, w.heap.size, Duv.bt ws.flatten, rfl, rfl, rfl, by omega, by omega, Nat.lt_of_lt_of_le hgn hbx.size, hg0, HN2, ?_, hide (Tur.RankN.start ws), ?_, hbx⟩
        · exact hide fun x hx => (hbx.cell (p := ⟨gn, x, none⟩) hgn).trans (HC.out x hx)
        · exact hide fun x _ => by have := bt_lt ws.flatten x; omega
      case round =>
        clear hbx HN2 hg0
        obtain ⟨N, go, co, gr, rk, rfl, rfl, rfl, hN1, hN2, hgo, hgr, HN, HO, HR, HB, hbx⟩ := hrel
        by_cases hlt2 : N < s.size
        · have cT := twice_any gr s.size go co s.size rk (fun x => Tur.it (Tur.nx ws) N x) wr hs hgr hgo (fun x hx => nums_cell HN.out hx) HO.out HB.out (fun x hx => by
            have := Tur.it_lt (ws := ws) (x := x) (by rw [HS.out]; exact hx) N
            rwa [HS.out] at this)
          have CT := hide cT
          clear cT
          go_wp2_with (go_at_call 63; refine CT.out.mono ?_; rintro e w1 ⟨g1, g2, rk', rfl, hN1', hN2', hb1, hl1, ho1⟩)
          go_roundw
          case rel =>
            refine ⟨N * 2, g2, s.size, g1, rk', rfl, rfl, by go_num, by omega, by omega, heap_lt0 hN2', heap_lt0 hN1', hide hN1', ?_, ?_, ?_, hbx.trans (hb1.mono hbx.size)⟩
            · refine hide fun x hx => ?_
              have := nums_cell hN2' hx
              rw [Tur.it_add, ← Nat.mul_two] at this
              exact this
            · refine hide (HR.out.twice fun x y hx hy => ?_)
              rw [HS.out] at hx hy
              exact ho1 x y hx hy
            · exact hide fun x hx => by have := hl1 x hx; omega
          case measure => simp [intOf]; omega
        · go_wp2
          go_ret
          exact ⟨gr, N, rk, rfl, HN.out, by omega, HR.out, HB.out, hbx⟩
end Go.Proofs.Ytkiindkoiomieaa
