/-
  P6: the walks of the writer: put, putNumbers.
-/
import Derived.Test.YtkiindkoiomieaaMove
import Derived.Test.YtkiindkoiomieaaGammaMath
namespace Go.Proofs.Ytkiindkoiomieaa
open Go.RowKit

theorem cell_of_bit {x : Nat} (h : x < 2) : Value.int .u8 (48 + (x : Int)) = .int .u8 ((UInt8.ofNat (48 + x)).toNat : Int) := by
  congr 1
  simp
  omega

set_option maxHeartbeats 400000 in
set_option maxRecDepth 100000 in
theorem put_any (B b x : Nat) (out : List UInt8) (w : World) (hx : x < 2) (h : Lib.IsBuilder 66 5 B b (Lib.byteCells out) w) (hlen : out.length ≤ 1000000) (hBw : B ≤ w.heap.size) :
    Calls Try.prog 40 #[.int .i64 x, .pointer (some ⟨b, 0, none⟩)] w fun e w' => e = .returned (.tuple #[]) ∧ Lib.IsBuilder 66 5 B b (Lib.byteCells (out ++ [UInt8.ofNat (48 + x)])) w' ∧ Below B w w' := by
  have cW := hide (write_any B b (Lib.byteCells out) (48 + (x : Int)) w h (by rw [Lib.byteCells_length]; exact hlen) hBw)
  clear h
  have h1 : IntKind.u8.wrap (x : Int) = x := IntWalk.u8_in _ (by omega)
  have h2 : IntKind.u8.wrap (48 + (x : Int)) = 48 + (x : Int) := IntWalk.u8_in _ (by omega)
  go_enter Try.func40, Try.ntmps40
  go_wp2_with (go_at_call 41; refine (unhide cW).mono ?_; rintro e w' ⟨rfl, hb, hbl⟩)
  go_end0
  refine ⟨rfl, ?_, hbl⟩
  rw [← byteCells_snoc, ← cell_of_bit hx]
  exact .inr hb

theorem and_one (m : Nat) (h : m ≤ 1073741824) : bits .and .i64 (m : Int) 1 = ((m % 2 : Nat) : Int) := by
  have e : (BitVec.ofInt 64 (m : Int) &&& BitVec.ofInt 64 1).toNat = m % 2 := by
    rw [BitVec.toNat_and]
    have h1 : (BitVec.ofInt 64 (m : Int)).toNat = m := by
      rw [BitVec.toNat_ofInt]
      omega
    have h2 : (BitVec.ofInt 64 1).toNat = 1 := by decide
    rw [h1, h2, Nat.and_one_is_mod]
  show IntKind.i64.wrap ((BitVec.ofInt 64 (m : Int) &&& BitVec.ofInt 64 1).toNat : Int) = _
  rw [e]
  exact IntWalk.i64_in _ (by omega)

theorem bit_of (n q : Nat) (h : n ≤ 1073741824) : bits .and .i64 ((n : Int) / 2 ^ q) 1 = ((n / 2 ^ q % 2 : Nat) : Int) := by
  have e : (n : Int) / 2 ^ q = ((n / 2 ^ q : Nat) : Int) := by
    rw [Int.natCast_ediv]
    simp
  rw [e]
  exact and_one _ (Nat.le_trans (Nat.div_le_self _ _) h)

set_option maxHeartbeats 1000000 in
set_option maxRecDepth 100000 in
theorem putNumbers_any (B b : Nat) (ao : Option Addr) (len cap : Nat) (zs : List Int) (lb lo : Nat) (w : World) (hz : zs.length = len) (hr : ∀ z ∈ zs, 1 ≤ z ∧ z ≤ 1073741824) (hl : len ≤ 100)
    (hao : 0 < len → ao = some ⟨lb, lo, none⟩ ∧ lb < B) (hc : ∀ j z, zs[j]? = some z → w.cell? ⟨lb, lo + j, none⟩ = some (.int .i64 z)) (h : Lib.IsBuilder 66 5 B b (Lib.byteCells []) w) (hBw : B ≤ w.heap.size) :
    Calls Try.prog 28 #[.func (.func 40) #[] #[.pointer (some ⟨b, 0, none⟩)], .slice ao len cap] w fun e w' => e = .returned (.tuple #[]) ∧ Lib.IsBuilder 66 5 B b (Lib.byteCells (gammaL zs)) w' ∧ Below B w w' := by
  have HR := hide hr
  have HC := hide hc
  have HA := hide hao
  clear hr hc hao
  go_enter Try.func28, Try.ntmps28
  go_wp2
  go_loopw [10] (fun i wr => ∃ k : Nat, k ≤ len ∧ i = .int .i64 k ∧ Lib.IsBuilder 66 5 B b (Lib.byteCells (gammaL (zs.take k))) wr ∧ Below B w wr) (fun i _ => len - (intOf i).toNat)
  case atStart => exact ⟨0, Nat.zero_le _, rfl, h, Below.refl _ _⟩
  case round =>
    clear h
    obtain ⟨k, hk, rfl, hB, hbx⟩ := hrel
    by_cases hlt : k < len
    · obtain ⟨z, hzk⟩ : ∃ z, zs[k]? = some z := ⟨_, List.getElem?_eq_getElem (by omega)⟩
      obtain ⟨rfl, hlb⟩ := HA.out (by omega)
      obtain ⟨n, hn⟩ : ∃ n : Nat, z = (n : Int) := ⟨z.toNat, by have := HR.out z (List.mem_of_getElem? hzk); omega⟩
      subst hn
      have hzr := HR.out _ (List.mem_of_getElem? hzk)
      have hcell : wr.cell? ⟨lb, lo + k, none⟩ = some (.int .i64 n) := (hbx.cell (p := ⟨lb, lo + k, none⟩) hlb).trans (HC.out k _ hzk)
      have hdb := dig_bounds (n := n) (by omega) (by omega)
      have cLen := Try.bits_Len (n : Int) wr (by omega) (by omega)
      rw [Int.toNat_natCast] at cLen
      obtain ⟨d, hd⟩ : ∃ d, d = dig n := ⟨_, rfl⟩
      have hd' : Lib.bitLen n = d := hd.symm
      rw [hd'] at cLen
      rw [← hd] at hdb
      have HD := hide hd
      have CL := hide cLen
      have hw : IntKind.u64.wrap (n : Int) = n := IntWalk.u64_in _ (by omega)
      obtain ⟨hd1, hd2, hd3, hd4⟩ := hdb
      have HDB := hide (And.intro hd3 hd4)
      have HZ := hide hzk
      clear hd hd' cLen hd3 hd4 hzk
      go_wp2_with (go_at_call 43; refine (unhide CL).mono ?_; rintro e w' ⟨rfl, rfl⟩)
      obtain ⟨A, hA⟩ : ∃ A, A = gammaL (zs.take k) := ⟨_, rfl⟩
      rw [← hA] at hB
      have hAl : A.length ≤ 6100 := by
        rw [hA]
        have h1 := gammaL_length (zs.take k) fun y hy => HR.out y (List.mem_of_mem_take hy)
        have h2 : (zs.take k).length ≤ 100 := by simp; omega
        omega
      have HA2 := hide hA
      clear hA hcell
      go_loopw [19] (fun i wr => ∃ j : Nat, j ≤ d - 1 ∧ i = .int .i64 j ∧ Lib.IsBuilder 66 5 B b (Lib.byteCells (A ++ List.replicate j 48)) wr ∧ Below B w wr) (fun i _ => d - 1 - (intOf i).toNat)
      case atStart => exact ⟨0, Nat.zero_le _, rfl, by rw [List.replicate_zero, List.append_nil]; exact hB, hbx⟩
      case round =>
        clear hB hbx
        obtain ⟨j, hj, rfl, hB, hbx⟩ := hrel
        by_cases hjd : j < d - 1
        · have cP := hide (put_any B b 0 (A ++ List.replicate j 48) wr (by omega) hB (by simp; omega) (by have := hbx.size; omega))
          clear hB
          go_wp2_with (go_at_call 40; refine (unhide cP).mono ?_; rintro e w2 ⟨rfl, hB2, hbl2⟩)
          go_roundw
          case rel => exact ⟨j + 1, by omega, by go_num, by rw [List.replicate_succ', ← List.append_assoc]; exact hB2, hbx.trans hbl2⟩
          case measure => simp [intOf]; omega
        · have hje : j = d - 1 := by omega
          have HJ := hide hje
          have hdec : decide ((j : Int) < (d : Int) - 1) = false := decide_eq_false (by omega)
          clear hje
          go_wp2
          go_loopw [7] (fun i wr => ∃ (r : Nat) (done : List UInt8), r ≤ d ∧ i = .int .i64 ((r : Int) - 1) ∧ done.length ≤ 31 ∧ Hid (done ++ lowB r n = lowB d n) ∧ Lib.IsBuilder 66 5 B b (Lib.byteCells (A ++ List.replicate (d - 1) 48 ++ done)) wr ∧ Below B w wr) (fun i _ => (intOf i + 1).toNat)
          case atStart => exact ⟨d, [], Nat.le_refl _, rfl, Nat.zero_le _, rfl, by rw [List.append_nil, ← HJ.out]; exact hB, hbx⟩
          case round =>
            clear hB hbx
            obtain ⟨r, done, hrd, rfl, hdl, HL, hB, hbx⟩ := hrel
            by_cases hr0 : 0 < r
            · obtain ⟨q, rfl⟩ : ∃ q, r = q + 1 := ⟨r - 1, by omega⟩
              obtain ⟨x, hx⟩ : ∃ x, x = n / 2 ^ q % 2 := ⟨_, rfl⟩
              have hbit : bits .and .i64 ((n : Int) / 2 ^ q) 1 = (x : Int) := by rw [hx]; exact bit_of n q (by omega)
              have hx2 : x < 2 := by rw [hx]; exact Nat.mod_lt _ (by omega)
              have HX := hide hx
              have hdq : done.length + (q + 1) = d := by
                have := congrArg List.length HL.out
                rw [List.length_append, lowB_length, lowB_length] at this
                exact this
              have HQ := hide hdq
              have cP := hide (put_any B b x (A ++ List.replicate (d - 1) 48 ++ done) wr hx2 hB (by simp; omega) (by have := hbx.size; omega))
              clear hB hx hdq
              go_wp2_with (go_at_call 40; refine (unhide cP).mono ?_; rintro e w2 ⟨rfl, hB2, hbl2⟩)
              go_roundw
              case rel =>
                refine ⟨q, done ++ [UInt8.ofNat (48 + x)], by omega, by go_num, ?_, ?_, ?_, hbx.trans hbl2⟩
                · rw [List.length_append, List.length_singleton]
                  have := HQ.out
                  omega
                · show _ = _
                  rw [← HL.out, lowB, ← HX.out, List.append_assoc]
                  rfl
                · rw [← List.append_assoc]
                  exact hB2
              case measure => simp [intOf]
            · have hr1 : r = 0 := by omega
              subst hr1
              go_wp2
              go_roundw
              case rel =>
                refine ⟨k + 1, by omega, by go_num, ?_, hbx⟩
                have e1 : zs.take (k + 1) = zs.take k ++ [(n : Int)] := by rw [List.take_add_one, HZ.out]; rfl
                have e2 := HL.out
                rw [lowB, List.append_nil] at e2
                rw [e1, gammaL_snoc, Int.toNat_natCast, gammaOne, ← HD.out, ← HA2.out, ← e2, ← List.append_assoc]
                exact hB
              case measure => simp [intOf]; omega
    · go_wp2
      go_end0
      rw [List.take_of_length_le (by omega)] at hB
      exact ⟨rfl, hB, hbx⟩
end Go.Proofs.Ytkiindkoiomieaa
