import Derived.Test.YtkiindkoiomieaaGreatDoorTextsCardK1
section
/-
  P8, P9: the walks of compressed and Texts.
-/
namespace Go.Proofs.YtkiindkoiomieaaGreatDoor
open Go.RowKit

set_option maxHeartbeats 1000000 in
set_option maxRecDepth 100000 in
theorem law_compressed (S : ByteArray) (block : Int) (w : World) (hm : S.size ≤ maxLen) :
    Calls Tryz.prog 23 #[.string S, .int .i64 block] w fun e w' => e = .returned (.bool true) ∧ Below w.heap.size w w' := by
  unfold maxLen at hm
  by_cases hs : S.size ≤ 300
  · by_cases hb : block < 1 ∨ 200 < block
    · have CC := hide (compress_arg S block w hs hb)
      have hdS : decide ((300 : Int) < (S.size : Int)) = false := decide_eq_false (by omega)
      go_enter Tryz.func23, Tryz.ntmps23
      go_wp2_with fail
      go_at_call 31
      refine CC.out.mono ?_
      rintro e w1 ⟨rfl, k1⟩
      by_cases h1 : block < 1
      · go_wp2_with (first
          | (go_at_call 12; go_in)
          | (go_at_call 13; refine (num_any _ _).mono ?_; rintro e w' ⟨rfl, hw⟩; rw [hw]; clear hw w'))
        go_ret
        exact ⟨rfl, k1⟩
      · have h2 : 200 < block := by omega
        go_wp2_with (first
          | (go_at_call 12; go_in)
          | (go_at_call 13; refine (num_any _ _).mono ?_; rintro e w' ⟨rfl, hw⟩; rw [hw]; clear hw w'))
        go_ret
        exact ⟨rfl, k1⟩
    · obtain ⟨n, rfl⟩ : ∃ n : Nat, block = (n : Int) := ⟨block.toNat, by omega⟩
      exact compressed_fit S n w hs (by omega) (by omega)
  · have CC := hide (compress_long S block w (by omega) hm)
    have hdS : decide ((300 : Int) < (S.size : Int)) = true := decide_eq_true (by omega)
    go_enter Tryz.func23, Tryz.ntmps23
    go_wp2_with fail
    go_at_call 31
    refine CC.out.mono ?_
    rintro e w1 ⟨rfl, k1⟩
    go_wp2_with (first
      | (go_at_call 12; go_in)
      | (go_at_call 13; refine (num_any _ _).mono ?_; rintro e w' ⟨rfl, hw⟩; rw [hw]; clear hw w'))
    go_ret
    exact ⟨rfl, k1⟩

set_option maxHeartbeats 1000000 in
set_option maxRecDepth 100000 in
theorem texts_any (b off len cap : Nat) (w : World) (hlen : len ≤ 9223372036854775807) (hb : b < w.heap.size)
    (hc : ∀ k, k < len → ∃ (na : Int) (S T : ByteArray), w.cell? ⟨b, off + k * 5, none⟩ = some (.int .i64 na) ∧ w.cell? ⟨b, off + k * 5 + 2, none⟩ = some (.string S) ∧ w.cell? ⟨b, off + k * 5 + 3, none⟩ = some (.string T) ∧ S.size ≤ maxLen ∧ T.size ≤ maxLen) :
    Calls Tryz.prog 8 #[.slice (some ⟨b, off, none⟩) len cap] w fun e w' => e = .returned (.bool true) ∧ Below w.heap.size w w' := by
  have HC := hide hc
  clear hc
  go_enter Tryz.func8, Tryz.ntmps8
  go_wp2
  go_loopw [3] (fun i wr => ∃ k : Nat, k ≤ len ∧ i = .int .i64 k ∧ Below w.heap.size w wr) (fun i _ => len - (intOf i).toNat)
  case atStart => exact ⟨0, Nat.zero_le _, rfl, Below.refl _ _⟩
  case round =>
    obtain ⟨k, hk, rfl, hbx⟩ := hrel
    by_cases hlt : k < len
    · by_cases hbig : (k : Int) < 1152921504606846976
      · have hd : decide ((k : Int) < 1152921504606846976) = true := decide_eq_true hbig
        clear hbig
        obtain ⟨na, S, T, gA, gS, gT, mS, mT⟩ := HC.out k hlt
        have hcA : wr.cell? ⟨b, off + k * 5, none⟩ = some (.int .i64 na) := (hbx.cell (p := ⟨b, off + k * 5, none⟩) hb).trans gA
        have hcS : wr.cell? ⟨b, off + k * 5 + 2, none⟩ = some (.string S) := (hbx.cell (p := ⟨b, off + k * 5 + 2, none⟩) hb).trans gS
        have cW := hide (fun W => law_compressed S na W mS)
        have hmT : T.size ≤ 9223372036854775807 := by unfold maxLen at mT; omega
        have HT := hide gT
        clear gA gS gT
        go_wp2_with fail
        go_region_with ((go_at_call 23; refine ((unhide cW) _).mono ?_; rintro e w2 ⟨rfl, hb2⟩))
        all_goals (
          have k2 : Below w.heap.size w w2 := hbx.drew.trans (hb2.mono hbx.size)
          have hcT : w2.cell? ⟨b, off + k * 5 + 3, none⟩ = some (.string T) := (k2.cell (p := ⟨b, off + k * 5 + 3, none⟩) hb).trans HT.out
          clear hb2 hbx hcA hcS cW
          go_wp2_with fail
          go_at_call 24
          refine (decompress_any T w2 hmT).mono ?_
          rintro e w3 ⟨hb3, res, hres, rfl⟩
          have k3 : Below w.heap.size w w3 := k2.trans (hb3.mono k2.size)
          have hcT3 : w3.cell? ⟨b, off + k * 5 + 3, none⟩ = some (.string T) := (k3.cell (p := ⟨b, off + k * 5 + 3, none⟩) hb).trans HT.out
          clear hb3 k2 hcT
          go_wp2_with fail
          go_at_call 25
          refine (unpacked_any T w3 hmT).mono ?_
          rintro e w4 ⟨hb4, res2, hres2, rfl⟩
          have k4 : Below w.heap.size w w4 := k3.trans (hb4.mono k3.size)
          have := Co.Join.uniq hres hres2
          subst this
          obtain ⟨D, hD⟩ : ∃ D : ByteArray, D = ⟨res.1.toArray⟩ := ⟨_, rfl⟩
          obtain ⟨c, hcc⟩ : ∃ c : Int, c = (res.2 : Int) := ⟨_, rfl⟩
          rw [← hD, ← hcc]
          clear hD hcc hres hres2 hb4 k3 hcT3
          go_wp2_with (go_at_call 13; refine (num_any _ _).mono ?_; rintro e w' ⟨rfl, hw⟩; rw [hw]; clear hw w')
          go_roundw
          case rel => exact ⟨k + 1, by omega, by go_num, k4⟩
          case measure => simp [intOf]; omega)
      · have hd : decide ((k : Int) < 1152921504606846976) = false := decide_eq_false hbig
        clear hbig
        go_wp2
        go_ret
        exact ⟨rfl, hbx⟩
    · go_wp2
      go_ret
      exact ⟨rfl, hbx⟩

set_option maxHeartbeats 400000 in
theorem texts_zero (ao : Option Addr) (cap : Nat) (w : World) :
    Calls Tryz.prog 8 #[.slice ao 0 cap] w fun e w' => e = .returned (.bool true) ∧ Below w.heap.size w w' := by
  go_enter Tryz.func8, Tryz.ntmps8
  go_wp2
  refine wp_loop_rounds 1 ?_
  rw [rounds_succ]
  go_wp2
  go_ret
  exact ⟨rfl, Below.refl _ _⟩
end Go.Proofs.YtkiindkoiomieaaGreatDoor
end

