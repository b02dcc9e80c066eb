/-
  P4: the walk of rowsAhead.
-/
import Derived.Test.YtkiindkoiomieaaRanksWalk
import Derived.Test.YtkiindkoiomieaaBackMath
namespace Go.Proofs.Ytkiindkoiomieaa
open Go.RowKit Go.Lib Go.Sort Go.Maps

/-- The first k of n pairs: as f says; zeros behind them. -/
def fillP (f : Nat → Int × Int) (n k : Nat) : Array (Int × Int) := ((List.range n).map fun j => if j < k then f j else (0, 0)).toArray

theorem fillP_size (f : Nat → Int × Int) (n k : Nat) : (fillP f n k).size = n := by simp [fillP]
theorem fillP_zero (f : Nat → Int × Int) (n : Nat) : zeroP n = fillP f n 0 := by
  apply Array.ext
  · simp [fillP, zeroP]
  · intro i h1 h2
    simp [fillP, zeroP]
theorem fillP_set (f : Nat → Int × Int) (n k : Nat) : (fillP f n k).setIfInBounds k (f k) = fillP f n (k + 1) := by
  apply Array.ext
  · simp [fillP]
  · intro i h1 h2
    simp only [fillP, List.setIfInBounds_toArray, List.getElem_toArray, List.getElem_set, List.getElem_map, List.getElem_range]
    by_cases hk : k = i
    · subst hk
      simp
    · rw [if_neg hk]
      by_cases h3 : i < k
      · rw [if_pos h3, if_pos (by omega)]
      · rw [if_neg h3, if_neg (by omega)]
theorem fillP_at (f : Nat → Int × Int) {n j : Nat} (h : j < n) : (fillP f n n)[j]! = f j := by
  rw [getElem!_pos _ j (by rw [fillP_size]; exact h)]
  simp [fillP, h]
theorem fillP_wf {f : Nat → Int × Int} {n : Nat} (h : ∀ j, j < n → (Lit.int .i64 (f j).1).wf = true ∧ (Lit.int .i64 (f j).2).wf = true) : Wf (fillP f n n).toList := by
  intro x hx
  simp only [fillP, List.mem_map, List.mem_range] at hx
  obtain ⟨j, hj, rfl⟩ := hx
  rw [if_pos hj]
  exact h j hj

theorem wrap64_byte (b : UInt8) : wrap64 (b.toNat : Int) = (b.toNat : Int) := by
  have := b.toNat_lt
  exact IntWalk.wrap64_in _ (by omega)

set_option maxHeartbeats 1000000 in
set_option maxRecDepth 100000 in
theorem rows_any (s : ByteArray) (w : World) (hs : s.size ≤ 500) :
    Calls Try.prog 53 #[.string s] w fun e w' => ∃ g p, e = .returned (.slice (some ⟨g, 0, none⟩) s.size s.size) ∧ NumsAt w' g ((List.range s.size).map p) ∧ w.heap.size ≤ g ∧ Below w.heap.size w w' ∧ Tur.Ahead s.data.toList p := by
  obtain ⟨cs, hmk, hsize, hlie⟩ := make_pairs s.size (by omega)
  have HLI := hide hlie
  clear hlie hsize
  obtain ⟨f, hf⟩ : ∃ f : Nat → Int × Int, f = fun j => (((Duv.bt s.data.toList j : Nat) : Int), ((j : Nat) : Int)) := ⟨_, rfl⟩
  have HF := hide hf
  clear hf
  go_enter Try.func53, Try.ntmps53
  go_wp2
  clear hmk
  go_loopw [10] (fun kv wr => ∃ k : Nat, k ≤ s.size ∧ kv = .int .i64 k ∧ Hid (Lies wr w.heap.size (fillP f s.size k)) ∧ Below w.heap.size w wr) (fun kv _ => s.size - (intOf kv).toNat)
  case atStart => exact ⟨0, by omega, rfl, by rw [← fillP_zero]; exact hide (HLI.out _ _ (heap_alloc_new _ _)), (Below.refl _ _).alloc (Nat.le_refl _) _⟩
  case round =>
    obtain ⟨k, hk, rfl, HL, hbx⟩ := hrel
    by_cases hlt : k < s.size
    · obtain ⟨c1, c2⟩ := HL.out.cell (j := k) (by rw [fillP_size]; exact hlt)
      generalize (fillP f s.size k)[k]! = old at c1 c2
      have f1 := HL.out.frozen (k * 2)
      have f2 := HL.out.frozen (k * 2 + 1)
      go_wp2
      go_roundw
      case rel =>
        refine ⟨k + 1, by omega, by go_num, ?_, ?_⟩
        · apply hide
          rw [wrap64_byte]
          have := HL.out.set (i := k) (by rw [fillP_size]; exact hlt) (s[k].toNat : Int) (k : Int)
          have e : ((s[k].toNat : Int), (k : Int)) = f k := by rw [HF.out, byte_bt s k hlt]
          rw [e, fillP_set] at this
          exact this
        · exact (hbx.setCell (p := ⟨w.heap.size, k * 2, none⟩) (Nat.le_refl _) _).setCell (p := ⟨w.heap.size, k * 2 + 1, none⟩) (Nat.le_refl _) _
      case measure => simp [intOf]; omega
    · have hkd : k = s.size := by omega
      have hL := HL.out
      rw [hkd] at hL
      have hsz := fillP_size f s.size s.size
      have cR := ranks_any w.heap.size s.size (fillP f s.size s.size) wr (by rw [hsz]; exact hs) hL (fillP_wf fun j hj => by
        rw [HF.out]
        have := bt_lt s.data.toList j
        exact ⟨WalkArith.wf_i64 (by simp only; omega), WalkArith.wf_i64 (by simp only; omega)⟩)
      rw [hsz] at cR
      have CR := hide cR
      clear cR hL hsz HL hkd
      go_wp2_with (go_at_call 67; refine CR.out.mono ?_; rintro e w1 ⟨g', p, rfl, hN, hg', hb1, hR⟩)
      go_ret
      refine ⟨g', p, rfl, hN, Nat.le_trans hbx.size hg', hbx.trans (hb1.mono hbx.size), ⟨fun r hr => ?_, fun r q hr hq => ?_⟩⟩
      · have hr' : r < s.size := by rw [Lib.size_eq]; exact hr
        have := hR.lt r (by rw [fillP_size]; exact hr')
        rw [fillP_size] at this
        rw [← Lib.size_eq]
        exact this
      · have hr' : r < s.size := by rw [Lib.size_eq]; exact hr
        have hq' : q < s.size := by rw [Lib.size_eq]; exact hq
        rw [hR.ord r q (by rw [fillP_size]; exact hr') (by rw [fillP_size]; exact hq'), fillP_at f hr', fillP_at f hq', HF.out, ltP_iff]
        simp only
        omega
end Go.Proofs.Ytkiindkoiomieaa
