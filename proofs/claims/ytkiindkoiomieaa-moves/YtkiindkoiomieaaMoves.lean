/-
  P5: the walks of Front, Behind, moves and Moves.
-/
import Derived.Test.YtkiindkoiomieaaMoveRef
namespace Go.Proofs.Ytkiindkoiomieaa
open Go.RowKit

set_option maxHeartbeats 400000 in
theorem front_short (s X : ByteArray) (hX : X = ⟨(frontL (part 256) s.data.toList).toArray⟩) (w : World) (hs : s.size ≤ 300) :
    Calls Try.prog 23 #[.string s] w fun e w' => e = .returned (.tuple #[.string X, .int .i64 0]) ∧ Below w.heap.size w w' := by
  have c := placesOf_any s w hs
  rw [← hX] at c
  clear hX
  go_enter Try.func23, Try.ntmps23
  go_wp2_with (go_at_call 38; refine c.mono ?_; rintro e w' ⟨rfl, hb⟩)
  go_ret2
  exact ⟨rfl, hb⟩

set_option maxHeartbeats 400000 in
theorem behind_short (s X : ByteArray) (hX : X = ⟨(behindL (part 256) s.data.toList).toArray⟩) (w : World) (hs : s.size ≤ 300) :
    Calls Try.prog 24 #[.string s] w fun e w' => e = .returned (.tuple #[.string X, .int .i64 0]) ∧ Below w.heap.size w w' := by
  have c := bytesAt_any s w (by omega)
  rw [← hX] at c
  clear hX
  go_enter Try.func24, Try.ntmps24
  go_wp2_with (go_at_call 39; refine c.mono ?_; rintro e w' ⟨rfl, hb⟩)
  go_ret2
  exact ⟨rfl, hb⟩

set_option maxHeartbeats 400000 in
theorem front_long (s : ByteArray) (w : World) (hs : 300 < s.size) (hm : s.size ≤ 9223372036854775807) :
    Calls Try.prog 23 #[.string s] w fun e w' => e = .returned (.tuple #[.string ⟨#[]⟩, .int .i64 1]) ∧ w' = w := by
  go_enter Try.func23, Try.ntmps23
  go_wp2
  go_ret2
  exact ⟨rfl, rfl⟩

set_option maxHeartbeats 400000 in
theorem behind_long (s : ByteArray) (w : World) (hs : 300 < s.size) (hm : s.size ≤ 9223372036854775807) :
    Calls Try.prog 24 #[.string s] w fun e w' => e = .returned (.tuple #[.string ⟨#[]⟩, .int .i64 1]) ∧ w' = w := by
  go_enter Try.func24, Try.ntmps24
  go_wp2
  go_ret2
  exact ⟨rfl, rfl⟩

set_option maxHeartbeats 1000000 in
theorem law_moves (s : ByteArray) (w : World) (hm : s.size ≤ maxLen) :
    Calls Try.prog 9 #[.string s] w fun e w' => e = .returned (.bool true) ∧ Below w.heap.size w w' := by
  unfold maxLen at hm
  by_cases hs : s.size ≤ 300
  · obtain ⟨X, hX⟩ : ∃ X : ByteArray, X = ⟨(frontL (part 256) s.data.toList).toArray⟩ := ⟨_, rfl⟩
    obtain ⟨Y, hY⟩ : ∃ Y : ByteArray, Y = ⟨(behindL (part 256) s.data.toList).toArray⟩ := ⟨_, rfl⟩
    have c1 := hide (fun w => front_short s X hX w hs)
    have c2 := hide (fun w => behind_short s Y hY w hs)
    have c3 := fun w => refFront_any s w hs
    have c4 := fun w => refBehind_any s w hs
    rw [← hX] at c3
    rw [← hY] at c4
    have C3 := hide c3
    have C4 := hide c4
    clear c3 c4 hX hY
    go_enter Try.func9, Try.ntmps9
    go_wp2_with (first
      | (go_at_call 23; refine (unhide c1 _).mono ?_; rintro e w1 ⟨rfl, hb1⟩)
      | (go_at_call 24; refine (unhide c2 _).mono ?_; rintro e w2 ⟨rfl, hb2⟩)
      | (go_at_call 25; refine (unhide C3 _).mono ?_; rintro e w3 ⟨rfl, hb3⟩)
      | (go_at_call 26; refine (unhide C4 _).mono ?_; rintro e w4 ⟨rfl, hb4⟩)
      | go_in)
    go_ret
    exact ⟨rfl, (hb1.trans (hb2.mono hb1.size)).trans ((hb3.mono (Nat.le_trans hb1.size hb2.size)).trans (hb4.mono (Nat.le_trans (Nat.le_trans hb1.size hb2.size) hb3.size)))⟩
  · go_enter Try.func9, Try.ntmps9
    go_wp2_with (first
      | (go_at_call 23; refine (front_long s _ (by omega) hm).mono ?_; rintro e w' ⟨rfl, rfl⟩)
      | (go_at_call 24; refine (behind_long s _ (by omega) hm).mono ?_; rintro e w' ⟨rfl, rfl⟩)
      | go_in)
    go_ret
    exact ⟨rfl, Below.refl _ _⟩

set_option maxHeartbeats 1000000 in
set_option maxRecDepth 100000 in
theorem moves_any (b off len cap : Nat) (S : Nat → ByteArray) (w : World) (hlen : len ≤ 9223372036854775807) (hb : b < w.heap.size)
    (hc : ∀ k, k < len → w.cell? ⟨b, off + k * 5 + 2, none⟩ = some (.string (S k)) ∧ (S k).size ≤ maxLen) :
    Calls Try.prog 5 #[.slice (some ⟨b, off, none⟩) len cap] w fun e w' => e = .returned (.bool true) ∧ Below w.heap.size w w' := by
  have HC := hide hc
  clear hc
  go_enter Try.func5, Try.ntmps5
  go_wp2
  go_loopw [3] (fun i wr => ∃ k : Nat, k ≤ len ∧ i = .int .i64 k ∧ Below w.heap.size w wr) (fun i _ => len - (intOf i).toNat)
  case atStart => exact ⟨0, Nat.zero_le _, rfl, Below.refl _ _⟩
  case round =>
    obtain ⟨k, hk, rfl, hbx⟩ := hrel
    by_cases hlt : k < len
    · by_cases hbig : (k : Int) < 1152921504606846976
      · have hd : decide ((k : Int) < 1152921504606846976) = true := decide_eq_true hbig
        clear hbig
        have hcell : wr.cell? ⟨b, off + k * 5 + 2, none⟩ = some (.string (S k)) := (hbx.cell (p := ⟨b, off + k * 5 + 2, none⟩) hb).trans (HC.out k hlt).1
        have cW := hide (law_moves (S k) wr (HC.out k hlt).2)
        go_wp2_with (go_at_call 9; refine (unhide cW).mono ?_; rintro e w' ⟨rfl, hb2⟩)
        go_roundw
        case rel => exact ⟨k + 1, by omega, by go_num, hbx.trans (hb2.mono hbx.size)⟩
        case measure => simp [intOf]; omega
      · have hd : decide ((k : Int) < 1152921504606846976) = false := decide_eq_false hbig
        clear hbig
        go_wp2
        go_ret
        exact ⟨rfl, hbx⟩
    · go_wp2
      go_ret
      exact ⟨rfl, hbx⟩

set_option maxHeartbeats 400000 in
theorem moves_zero (ao : Option Addr) (cap : Nat) (w : World) :
    Calls Try.prog 5 #[.slice ao 0 cap] w fun e w' => e = .returned (.bool true) ∧ Below w.heap.size w w' := by
  go_enter Try.func5, Try.ntmps5
  go_wp2
  refine wp_loop_rounds 1 ?_
  rw [rounds_succ]
  go_wp2
  go_ret
  exact ⟨rfl, Below.refl _ _⟩
end Go.Proofs.Ytkiindkoiomieaa
