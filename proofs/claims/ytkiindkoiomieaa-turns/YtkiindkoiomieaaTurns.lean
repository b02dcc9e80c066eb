/-
  P4: the walks of turns and Turns.
-/
import Derived.Test.YtkiindkoiomieaaTurnNone
namespace Go.Proofs.Ytkiindkoiomieaa
open Go.RowKit

theorem ref_is (s : ByteArray) (ws : List (List UInt8)) (t : List UInt8) (hs : s.size ≤ 300) (hg : Duv.Good ws) (hf : ws.flatten = s.data.toList) (ht : Tur.Turned ws t) (w : World) :
    Calls Try.prog 22 #[.string s] w fun e w' => e = .returned (strV t) ∧ Below w.heap.size w w' := by
  refine (refTurn_any s w hs ws hg hf).mono ?_
  rintro e w' ⟨t', rfl, h1, h2⟩
  rw [h1.unique ht]
  exact ⟨rfl, h2⟩

set_option maxHeartbeats 1000000 in
set_option maxRecDepth 100000 in
theorem law_turns (s : ByteArray) (w : World) (hm : s.size ≤ maxLen) :
    Calls Try.prog 8 #[.string s] w fun e w' => e = .returned (.bool true) ∧ Below w.heap.size w w' := by
  unfold maxLen at hm
  by_cases hs : s.size ≤ 300
  · go_enter Try.func8, Try.ntmps8
    go_wp2_with fail
    go_at_call 20
    refine (turn_short s w hs).mono ?_
    rintro e w1 ⟨t, ws, rfl, g1, f1, t1, hb1⟩
    obtain ⟨T, hT⟩ : ∃ T : ByteArray, Value.string T = strV t := ⟨_, rfl⟩
    have c1 := ref_is s ws t hs g1 f1 t1
    rw [← hT] at c1 ⊢
    have C1 := hide c1
    clear c1 g1 f1 t1 hT
    go_wp2_with fail
    go_at_call 21
    refine (back_short s w1 hs).mono ?_
    rintro e w2 ⟨b, us, rfl, g2, f2, t2, hb2⟩
    obtain ⟨B, hB⟩ : ∃ B : ByteArray, B = ⟨b.toArray⟩ := ⟨_, rfl⟩
    have hBd : B.data.toList = b := by rw [hB]
    have hBs : B.size = s.size := by
      have := t2.length
      rw [f2, ← Lib.size_eq] at this
      rw [Lib.size_eq, hBd, this]
    have c2 := ref_is B us s.data.toList (by omega) g2 (by rw [hBd]; exact f2) t2
    have e1 : strV s.data.toList = .string s := by
      unfold strV
      rfl
    have e2 : strV b = .string B := by rw [hB]; rfl
    rw [e1] at c2
    rw [e2]
    have C2 := hide c2
    have hlen : ((B.size : Int) == (s.size : Int)) = true := by rw [hBs]; simp
    clear c2 g2 f2 t2 e1 e2 hB hBd hBs
    go_wp2_with (first
      | (go_at_call 16; refine (num_any _ _).mono ?_; rintro e w' ⟨rfl, rfl⟩)
      | (go_at_call 18; go_in))
    go_at_call 22
    refine (C1.out _).mono ?_
    rintro e w3 ⟨rfl, hb3⟩
    go_wp2_with fail
    go_at_call 22
    refine (C2.out _).mono ?_
    rintro e w4 ⟨rfl, hb4⟩
    go_wp2_with (go_at_call 16; refine (num_any _ _).mono ?_; rintro e w' ⟨rfl, rfl⟩)
    go_ret
    exact ⟨rfl, (hb1.trans (hb2.mono hb1.size)).trans ((hb3.mono (Nat.le_trans hb1.size hb2.size)).trans (hb4.mono (Nat.le_trans (Nat.le_trans hb1.size hb2.size) hb3.size)))⟩
  · go_enter Try.func8, Try.ntmps8
    go_wp2_with (first
      | (go_at_call 20; refine (turn_long s _ (by omega) hm).mono ?_; rintro e w' ⟨rfl, rfl⟩)
      | (go_at_call 21; refine (back_long s _ (by omega) hm).mono ?_; rintro e w' ⟨rfl, rfl⟩)
      | go_in)
    go_ret
    exact ⟨rfl, Below.refl _ _⟩

set_option maxHeartbeats 1000000 in
set_option maxRecDepth 100000 in
theorem turns_any (b off len cap : Nat) (S : Nat → ByteArray) (w : World) (hlen : len ≤ 9223372036854775807) (hb : b < w.heap.size)
    (hc : ∀ k, k < len → w.cell? ⟨b, off + k * 5 + 2, none⟩ = some (.string (S k)) ∧ (S k).size ≤ maxLen) :
    Calls Try.prog 4 #[.slice (some ⟨b, off, none⟩) len cap] w fun e w' => e = .returned (.bool true) ∧ Below w.heap.size w w' := by
  have HC := hide hc
  clear hc
  go_enter Try.func4, Try.ntmps4
  go_wp2
  go_loopw [3] (fun i wr => ∃ k : Nat, k ≤ len ∧ i = .int .i64 k ∧ Below w.heap.size w wr) (fun i _ => len - (intOf i).toNat)
  case atStart => exact ⟨0, Nat.zero_le _, rfl, Below.refl _ _⟩
  case round =>
    obtain ⟨k, hk, rfl, hbx⟩ := hrel
    by_cases hlt : k < len
    · by_cases hbig : (k : Int) < 1152921504606846976
      · have hd : decide ((k : Int) < 1152921504606846976) = true := decide_eq_true hbig
        clear hbig
        have hcell : wr.cell? ⟨b, off + k * 5 + 2, none⟩ = some (.string (S k)) := (hbx.cell (p := ⟨b, off + k * 5 + 2, none⟩) hb).trans (HC.out k hlt).1
        have cW := hide (law_turns (S k) wr (HC.out k hlt).2)
        go_wp2_with (go_at_call 8; refine (unhide cW).mono ?_; rintro e w' ⟨rfl, hb2⟩)
        go_roundw
        case rel => exact ⟨k + 1, by omega, by go_num, hbx.trans (hb2.mono hbx.size)⟩
        case measure => simp [intOf]; omega
      · have hd : decide ((k : Int) < 1152921504606846976) = false := decide_eq_false hbig
        clear hbig
        go_wp2
        go_ret
        exact ⟨rfl, hbx⟩
    · go_wp2
      go_ret
      exact ⟨rfl, hbx⟩

set_option maxHeartbeats 400000 in
theorem turns_zero (ao : Option Addr) (cap : Nat) (w : World) :
    Calls Try.prog 4 #[.slice ao 0 cap] w fun e w' => e = .returned (.bool true) ∧ Below w.heap.size w w' := by
  go_enter Try.func4, Try.ntmps4
  go_wp2
  refine wp_loop_rounds 1 ?_
  rw [rounds_succ]
  go_wp2
  go_ret
  exact ⟨rfl, Below.refl _ _⟩
end Go.Proofs.Ytkiindkoiomieaa
