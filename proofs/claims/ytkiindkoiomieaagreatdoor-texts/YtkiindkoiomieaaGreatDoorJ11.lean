import Derived.Test.YtkiindkoiomieaaGreatDoorJ10
import Derived.Test.YtkiindkoiomieaaGreatDoorJ03
import Derived.Test.YtkiindkoiomieaaGreatDoorJ05
import Derived.Test.YtkiindkoiomieaaGreatDoorJ09
import Derived.Deep.RegionHeld3
import Derived.Deep.LoopGhost
section
/-
  P8: the walks of sumOf, putBytes, numberOf.
-/
namespace Go.Proofs.YtkiindkoiomieaaGreatDoor
open Go.RowKit

theorem xor_u32 {x y : Nat} (hx : x < 4294967296) (hy : y < 4294967296) : bits .xor .u32 (x : Int) (y : Int) = ((x ^^^ y : Nat) : Int) := by
  have e : (BitVec.ofInt 32 (x : Int) ^^^ BitVec.ofInt 32 (y : Int)).toNat = x ^^^ y := by
    rw [BitVec.toNat_xor]
    have h1 : (BitVec.ofInt 32 (x : Int)).toNat = x := by rw [BitVec.toNat_ofInt]; omega
    have h2 : (BitVec.ofInt 32 (y : Int)).toNat = y := by rw [BitVec.toNat_ofInt]; omega
    rw [h1, h2]
  show IntKind.u32.wrap ((BitVec.ofInt 32 (x : Int) ^^^ BitVec.ofInt 32 (y : Int)).toNat : Int) = _
  rw [e]
  have := Co.xor_lt hx hy
  exact IntWalk.u32_in _ (by omega)

theorem and_u32 {x : Nat} (hx : x < 4294967296) : bits .and .u32 (x : Int) 1 = ((x % 2 : Nat) : Int) := by
  have e : (BitVec.ofInt 32 (x : Int) &&& BitVec.ofInt 32 1).toNat = x % 2 := by
    rw [BitVec.toNat_and]
    have h1 : (BitVec.ofInt 32 (x : Int)).toNat = x := by rw [BitVec.toNat_ofInt]; omega
    have h2 : (BitVec.ofInt 32 1).toNat = 1 := by decide
    rw [h1, h2, Nat.and_one_is_mod]
  show IntKind.u32.wrap ((BitVec.ofInt 32 (x : Int) &&& BitVec.ofInt 32 1).toNat : Int) = _
  rw [e]
  exact IntWalk.u32_in _ (by omega)

theorem not_u32 {x : Nat} (hx : x < 4294967296) : x ^^^ 4294967295 = 4294967295 - x := by
  have h : (BitVec.ofNat 32 x ^^^ BitVec.allOnes 32).toNat = (~~~ BitVec.ofNat 32 x).toNat := by rw [BitVec.xor_allOnes]
  rw [BitVec.toNat_xor, BitVec.toNat_not, BitVec.toNat_allOnes, BitVec.toNat_ofNat] at h
  have e : x % 2 ^ 32 = x := Nat.mod_eq_of_lt hx
  rw [e] at h
  exact h

theorem step_eq (c : Nat) : Co.crcStep c = c / 2 ^^^ (c % 2 * 3988292384) := by
  unfold Co.crcStep
  rcases Nat.mod_two_eq_zero_or_one c with h | h
  · rw [h, if_neg (by omega), Nat.zero_mul, Nat.xor_zero]
  · rw [h, if_pos rfl, Nat.one_mul]

set_option maxHeartbeats 1000000 in
set_option maxRecDepth 100000 in
theorem sumOf_any (S : ByteArray) (w : World) (hs : S.size ≤ 1000) :
    Calls Tryz.prog 111 #[.string S] w fun e w' => e = .returned (.int .u32 (Co.crcF S.data.toList : Nat)) ∧ w' = w := by
  go_enter Tryz.func111, Tryz.ntmps111
  go_wp2
  go_loop [3, 8] (fun cv iv => ∃ i c : Nat, i ≤ S.size ∧ iv = .int .i64 i ∧ cv = .int .u32 c ∧ c < 4294967296 ∧ Hid (c = Co.crcL 4294967295 (S.data.toList.take i))) (fun _ iv => S.size - (intOf iv).toNat)
  case atStart => exact ⟨0, 4294967295, by omega, rfl, rfl, by omega, rfl⟩
  case round =>
    obtain ⟨i, c, hi, rfl, rfl, hc, HC⟩ := hrel
    by_cases hlt : i < S.size
    · have hb := S[i].toNat_lt
      have hnext : Co.crcL 4294967295 (S.data.toList.take (i + 1)) = Co.crcSteps 8 (c ^^^ S[i].toNat) := by
        rw [List.take_add_one, byte_get0 S i hlt]
        show Co.crcL _ (_ ++ [S[i]]) = _
        rw [Co.crcL_snoc, ← HC.out]
        rfl
      have HN := hide hnext
      have hx := xor_u32 (x := c) (y := S[i].toNat) hc (by omega)
      have hxl : c ^^^ S[i].toNat < 4294967296 := Co.xor_lt hc (by omega)
      have hw : IntKind.u32.wrap (S[i].toNat : Int) = (S[i].toNat : Int) := IntWalk.u32_in _ (by omega)
      obtain ⟨c0, hc0⟩ : ∃ c0, c0 = c ^^^ S[i].toNat := ⟨_, rfl⟩
      rw [← hc0] at hx hxl
      have HC0 := hide hc0
      clear hnext hc0
      go_wp2
      go_loop [3, 17] (fun cv kv => ∃ k d : Nat, k ≤ 8 ∧ kv = .int .i64 k ∧ cv = .int .u32 d ∧ d < 4294967296 ∧ Hid (d = Co.crcSteps k c0)) (fun _ kv => 8 - (intOf kv).toNat)
      case atStart => exact ⟨0, c0, by omega, rfl, rfl, hxl, rfl⟩
      case round =>
        obtain ⟨k, d, hk, rfl, rfl, hd, HD⟩ := hrel
        by_cases hk8 : k < 8
        · obtain ⟨o, ho⟩ : ∃ o, o = d % 2 := ⟨_, rfl⟩
          have ha := and_u32 (x := d) hd
          rw [← ho] at ha
          have ho2 : o < 2 := by omega
          have hmul : IntKind.u32.wrap ((o : Int) * 3988292384) = ((o * 3988292384 : Nat) : Int) := by rw [IntWalk.u32_in _ (by omega)]; omega
          obtain ⟨m, hm⟩ : ∃ m, m = o * 3988292384 := ⟨_, rfl⟩
          rw [← hm] at hmul
          have hml : m < 4294967296 := by omega
          obtain ⟨h, hh⟩ : ∃ h, h = d / 2 := ⟨_, rfl⟩
          have hhI : (d : Int) / 2 = (h : Int) := by omega
          have hxr := xor_u32 (x := h) (y := m) (by omega) hml
          have hst : Co.crcSteps (k + 1) c0 = h ^^^ m := by rw [Co.crcSteps_snoc, ← HD.out, step_eq, ← ho, ← hm, ← hh]
          have hl : h ^^^ m < 4294967296 := Co.xor_lt (by omega) hml
          have HST := hide hst
          clear hst ho hm hh
          go_wp2
          go_round
          case rel => exact ⟨k + 1, h ^^^ m, by omega, by go_num, rfl, hl, HST.out.symm⟩
          case measure => simp [intOf]; omega
        · have hk8' : k = 8 := by omega
          have hfin : d = Co.crcL 4294967295 (S.data.toList.take (i + 1)) := by rw [HN.out, HD.out, hk8', HC0.out]
          have HF := hide hfin
          clear hfin hk8'
          go_wp2
          go_round
          case rel => exact ⟨i + 1, d, by omega, by go_num, rfl, hd, HF.out⟩
          case measure => simp [intOf]; omega
    · have hfin : Co.crcF S.data.toList = 4294967295 ^^^ c := by
        unfold Co.crcF
        rw [Nat.xor_comm, HC.out, List.take_of_length_le (by rw [← Lib.size_eq]; omega)]
      have HF := hide hfin
      clear hfin
      go_wp2
      go_ret
      refine ⟨?_, rfl⟩
      rw [HF.out, ← xor_u32 (by omega) hc]
      rfl

theorem pow_256 (i : Nat) : (256 : Nat) ^ i = 2 ^ (8 * i) := by rw [Nat.pow_mul]

set_option maxHeartbeats 1000000 in
set_option maxRecDepth 100000 in
theorem putBytes_any (B b n count : Nat) (l : List UInt8) (w : World) (hc : count ≤ 4) (hl : l.length ≤ 10000) (h : Lib.IsBuilder 83 5 B b (Lib.byteCells l) w) (hBw : B ≤ w.heap.size) :
    Calls Tryz.prog 91 #[.pointer (some ⟨b, 0, none⟩), .int .u32 (n : Int), .int .i64 (count : Int)] w fun e w' => e = .returned (.tuple #[]) ∧ Lib.IsBuilder 83 5 B b (Lib.byteCells (l ++ Co.leB count n)) w' ∧ Below B w w' := by
  go_enter Tryz.func91, Tryz.ntmps91
  go_wp2
  go_loopw [8] (fun iv wr => ∃ i : Nat, i ≤ count ∧ iv = .int .i64 i ∧ Lib.IsBuilder 83 5 B b (Lib.byteCells (l ++ Co.leB i n)) wr ∧ Below B w wr) (fun iv _ => count - (intOf iv).toNat)
  case atStart => exact ⟨0, by omega, rfl, by rw [Co.leB, List.append_nil]; exact h, Below.refl _ _⟩
  case round =>
    clear h
    obtain ⟨i, hi, rfl, hB, hbx⟩ := hrel
    by_cases hlt : i < count
    · obtain ⟨x, hx⟩ : ∃ x, x = n / 256 ^ i % 256 := ⟨_, rfl⟩
      have hx256 : x < 256 := by rw [hx]; exact Nat.mod_lt _ (by omega)
      have hlen : (l ++ Co.leB i n).length ≤ 1000000 := by rw [List.length_append, Co.leB_length]; omega
      have CW := hide (write_any B b (Lib.byteCells (l ++ Co.leB i n)) (x : Int) wr hB (by rw [Lib.byteCells_length]; exact hlen) (by have := hbx.size; omega))
      have hsn : Co.leB (i + 1) n = Co.leB i n ++ [UInt8.ofNat x] := by rw [Co.leB_snoc, hx]
      have HS := hide hsn
      have hdv : (n : Int) / 2 ^ (8 * i) % 256 = (x : Int) := by
        rw [hx, pow_256]
        simp
      have hw8 : IntKind.u8.wrap ((n : Int) / 2 ^ (8 * i)) = (x : Int) := by rw [← hdv]; rfl
      clear hsn hx hB
      go_wp2_with (go_at_call 63; refine CW.out.mono ?_; rintro e w1 ⟨rfl, hB1, hb1⟩)
      go_roundw
      case rel =>
        refine ⟨i + 1, by omega, by go_num, ?_, hbx.trans hb1⟩
        rw [HS.out, ← List.append_assoc, ← byteCells_snoc, UInt8.toNat_ofNat_of_lt' hx256]
        exact .inr hB1
      case measure => simp [intOf]; omega
    · have hie : i = count := by omega
      rw [hie] at hB
      clear hie
      go_wp2
      go_end0
      exact ⟨rfl, hB, hbx⟩

theorem or_u32 {x y k : Nat} (hx : x < 2 ^ k) (hy : 2 ^ k * y < 4294967296) (hk : 2 ^ k ≤ 4294967296) : bits .or .u32 (x : Int) ((2 ^ k * y : Nat) : Int) = ((x + 2 ^ k * y : Nat) : Int) := by
  have hor : x ||| 2 ^ k * y = x + 2 ^ k * y := by
    rw [Nat.or_comm, Nat.add_comm]
    exact (Nat.two_pow_add_eq_or_of_lt hx y).symm
  have hlt : x ||| 2 ^ k * y < 4294967296 := Nat.or_lt_two_pow (n := 32) (by omega) hy
  have e : (BitVec.ofInt 32 (x : Int) ||| BitVec.ofInt 32 ((2 ^ k * y : Nat) : Int)).toNat = x ||| 2 ^ k * y := by
    rw [BitVec.toNat_or]
    have h1 : (BitVec.ofInt 32 (x : Int)).toNat = x := by rw [BitVec.toNat_ofInt]; omega
    have h2 : (BitVec.ofInt 32 ((2 ^ k * y : Nat) : Int)).toNat = 2 ^ k * y := by
      rw [BitVec.toNat_ofInt]
      generalize 2 ^ k * y = z at *
      omega
    rw [h1, h2]
  show IntKind.u32.wrap ((BitVec.ofInt 32 (x : Int) ||| BitVec.ofInt 32 ((2 ^ k * y : Nat) : Int)).toNat : Int) = _
  rw [e, ← hor]
  exact IntWalk.u32_in _ (by omega)

set_option maxHeartbeats 1000000 in
set_option maxRecDepth 100000 in
theorem numberOf_any (S : ByteArray) (w : World) (hs : S.size ≤ 4) :
    Calls Tryz.prog 81 #[.string S] w fun e w' => e = .returned (.int .u32 (Co.leN S.data.toList : Nat)) ∧ w' = w := by
  go_enter Tryz.func81, Tryz.ntmps81
  go_wp2
  go_loop [3, 7] (fun nv iv => ∃ i n : Nat, i ≤ S.size ∧ iv = .int .i64 i ∧ nv = .int .u32 n ∧ Hid (n = Co.leN (S.data.toList.take i))) (fun _ iv => S.size - (intOf iv).toNat)
  case atStart => exact ⟨0, 0, by omega, rfl, rfl, rfl⟩
  case round =>
    obtain ⟨i, n, hi, rfl, rfl, HN⟩ := hrel
    by_cases hlt : i < S.size
    · have hb := S[i].toNat_lt
      have htl : (S.data.toList.take i).length = i := by rw [List.length_take, ← Lib.size_eq]; omega
      have hnl : n < 2 ^ (8 * i) := by
        rw [HN.out, ← pow_256]
        have := Co.leN_lt (S.data.toList.take i)
        rw [htl] at this
        exact this
      have hpk : 2 ^ (8 * i) ≤ 16777216 := by
        have := Nat.pow_le_pow_right (n := 2) (by omega) (show 8 * i ≤ 24 by omega)
        exact this
      have hy : 2 ^ (8 * i) * S[i].toNat < 4294967296 := by
        have : 2 ^ (8 * i) * S[i].toNat ≤ 16777216 * 255 := Nat.mul_le_mul hpk (by omega)
        omega
      have hnext : Co.leN (S.data.toList.take (i + 1)) = n + 2 ^ (8 * i) * S[i].toNat := by
        rw [List.take_add_one, byte_get0 S i hlt]
        show Co.leN (_ ++ [S[i]]) = _
        rw [Co.leN_snoc, htl, ← HN.out, pow_256]
      have hor := or_u32 (x := n) (y := S[i].toNat) (k := 8 * i) hnl hy (by omega)
      have hshl : (S[i].toNat : Int) * 2 ^ (8 * i) % 4294967296 = ((2 ^ (8 * i) * S[i].toNat : Nat) : Int) := by
        rw [show (S[i].toNat : Int) * 2 ^ (8 * i) = ((2 ^ (8 * i) * S[i].toNat : Nat) : Int) by simp [Int.mul_comm]]
        generalize 2 ^ (8 * i) * S[i].toNat = z at *
        omega
      have hw : IntKind.u32.wrap (S[i].toNat : Int) = (S[i].toNat : Int) := IntWalk.u32_in _ (by omega)
      rw [← hnext] at hor
      rw [← hshl] at hor
      have HO := hide hor
      clear hnext hor hshl hy hpk hnl htl
      go_wp2
      go_round
      case rel => exact ⟨i + 1, Co.leN (S.data.toList.take (i + 1)), by omega, by go_num, by rw [HO.out], rfl⟩
      case measure => simp [intOf]; omega
    · have hfin : Co.leN S.data.toList = n := by rw [HN.out, List.take_of_length_le (by rw [← Lib.size_eq]; omega)]
      have HF := hide hfin
      clear hfin
      go_wp2
      go_ret
      exact ⟨by rw [HF.out]; rfl, rfl⟩
end Go.Proofs.YtkiindkoiomieaaGreatDoor
end

section
/-
  P7: the walks of the places of bits and of their odds.
-/
namespace Go.Proofs.YtkiindkoiomieaaGreatDoor
open Go.RowKit

/-- A place as a value. -/
def placeV (p : Co.Pl) : Value := .agg #[.int .i64 (p.1 : Int), .int .i64 (p.2 : Int)]

set_option maxHeartbeats 400000 in
set_option maxRecDepth 100000 in
theorem whole_any (a : Nat) (w : World) (h0 : 1 ≤ a) (h1 : a < 4611686018427387904) :
    Calls Tryz.prog 164 #[.int .i64 (a : Int)] w fun e w' => e = .returned (.tuple #[.int .i64 (Co.numAt a : Nat), .bool (Co.whole a)]) ∧ w' = w := by
  have c1 := Tryz.bits_Len (a : Int) w (by omega) (by omega)
  rw [Int.toNat_natCast] at c1
  obtain ⟨b1, b2, b3⟩ := Lib.bitLenAux_bounds 64 a (by omega) (by omega)
  obtain ⟨k, hk⟩ : ∃ k, Lib.bitLen a = k + 1 := ⟨Lib.bitLen a - 1, by
    have e : Lib.bitLen a = Lib.bitLenAux 64 a := rfl
    omega⟩
  have hk' : Lib.bitLenAux 64 a = k + 1 := hk
  have hdig : dig a = k + 1 := hk
  rw [hk', Nat.add_sub_cancel] at b2
  rw [hk] at c1
  obtain ⟨n, hn⟩ : ∃ n, n = a - 2 ^ k := ⟨_, rfl⟩
  have hnle : n ≤ a := by rw [hn]; exact Nat.sub_le _ _
  have hna : Co.numAt a = n := by
    unfold Co.numAt
    rw [hdig, Nat.add_sub_cancel, hn]
  have hk62 : k ≤ 61 := by
    rcases Nat.lt_or_ge 61 k with h | h
    · have := Nat.pow_le_pow_right (n := 2) (by omega) (show 62 ≤ k by omega)
      have e : (2 : Nat) ^ 62 = 4611686018427387904 := by decide
      omega
    · exact h
  have c2 := Tryz.bits_Len (n : Int) w (by omega) (by omega)
  rw [Int.toNat_natCast] at c2
  obtain ⟨m, hm⟩ : ∃ m, m = Lib.bitLen n := ⟨_, rfl⟩
  have hm64 : m ≤ 64 := by
    rw [hm]
    by_cases hn0 : n = 0
    · rw [hn0]
      decide
    · obtain ⟨d1, d2, d3⟩ := Lib.bitLenAux_bounds 64 n (by omega) hn0
      have e : Lib.bitLen n = Lib.bitLenAux 64 n := rfl
      rcases Nat.lt_or_ge 64 (Lib.bitLen n) with h | h
      · have := Nat.pow_le_pow_right (n := 2) (by omega) (show 64 ≤ Lib.bitLenAux 64 n - 1 by omega)
        omega
      · exact h
  rw [← hm] at c2
  have hwh : Co.whole a = decide (2 * m = k + 1) := by
    unfold Co.whole
    rw [hna, hdig, hm]
    rfl
  obtain ⟨P, hP⟩ : ∃ P, P = 2 ^ k := ⟨_, rfl⟩
  have hPa : P ≤ a := by rw [hP]; exact b2
  have hsh : (2 : Int) ^ k = (P : Int) := by rw [hP]; simp
  rw [hna, hwh]
  have hnI : (a : Int) - (P : Int) = (n : Int) := by rw [hn, ← hP]; omega
  have e1 : IntKind.u64.wrap (a : Int) = (a : Int) := IntWalk.u64_in _ (by omega)
  have e2 : IntKind.u64.wrap (n : Int) = (n : Int) := IntWalk.u64_in _ (by omega)
  have C1 := hide c1
  have C2 := hide c2
  clear c1 c2 b1 b2 b3 hk hk' hdig hn hna hm hwh hP
  go_enter Tryz.func164, Tryz.ntmps164
  go_wp2_with fail
  go_at_call 69
  refine C1.out.mono ?_
  rintro e w' ⟨rfl, rfl⟩
  go_wp2_with (go_at_call 69; refine C2.out.mono ?_; rintro e w' ⟨rfl, rfl⟩)
  go_ret2
  refine ⟨?_, rfl⟩
  have hbe : (2 * (m : Int) == (k : Int) + 1) = decide (2 * m = k + 1) := by
    rw [Bool.eq_iff_iff, beq_iff_eq, decide_eq_true_iff]
    omega
  show Ending.returned (.tuple #[.int .i64 (n : Int), .bool (2 * (m : Int) == (k : Int) + 1)]) = _
  rw [hbe]

set_option maxHeartbeats 1000000 in
set_option maxRecDepth 100000 in
theorem behind_any (p : Co.Pl) (b : Nat) (w : World) (h0 : 1 ≤ p.2) (h1 : p.2 < 2305843009213693952) (hp : p.1 ≤ 1) (hb : b < 2) :
    Calls Tryz.prog 154 #[placeV p, .int .i64 (b : Int)] w fun e w' => e = .returned (placeV (Co.bhd p b)) ∧ Below w.heap.size w w' := by
  obtain ⟨x, q⟩ := p
  simp only [placeV] at *
  obtain ⟨a, ha⟩ : ∃ a, a = 2 * q + b := ⟨_, rfl⟩
  have haI : 2 * (q : Int) + (b : Int) = (a : Int) := by omega
  have CW := hide (fun W => whole_any a W (by omega) (by omega))
  have hnum : Co.numAt a ≤ a := Nat.sub_le _ _
  obtain ⟨n, hn⟩ : ∃ n, n = Co.numAt a := ⟨_, rfl⟩
  rw [← hn] at hnum
  have hbhd : Co.bhd (x, q) b = if Co.whole a then (if n = 1 ∧ x = 0 then (1, 1) else (0, 1)) else (x, a) := by
    unfold Co.bhd
    simp only
    rw [← ha, ← hn]
  rw [← hn] at CW
  rw [hbhd]
  clear hbhd hn
  have HA := hide ha
  clear ha
  cases hwh : Co.whole a with
  | false =>
    rw [hwh] at CW
    rw [if_neg (by simp)]
    go_enter Tryz.func154, Tryz.ntmps154
    go_wp2_with (go_at_call 164; refine (CW.out _).mono ?_; rintro e w' ⟨rfl, rfl⟩)
    refine bodyPost_ret (v := placeV (x, a)) (by simp [results, Tryz.results154, go_sem, placeV]) rfl ⟨rfl, ?_⟩
    exact ((Below.refl _ w).alloc (Nat.le_refl _) _).alloc (by simp) _
  | true =>
    rw [hwh] at CW
    rw [if_pos rfl]
    by_cases hn1 : n = 1
    · by_cases hx0 : x = 0
      · subst hx0
        subst hn1
        rw [if_pos ⟨rfl, rfl⟩]
        go_enter Tryz.func154, Tryz.ntmps154
        go_wp2_with (go_at_call 164; refine (CW.out _).mono ?_; rintro e w' ⟨rfl, rfl⟩)
        refine bodyPost_ret (v := placeV (1, 1)) (by simp [results, Tryz.results154, go_sem, placeV]) rfl ⟨rfl, ?_⟩
        exact ((Below.refl _ w).alloc (Nat.le_refl _) _).alloc (by simp) _
      · have hx1 : ((x : Int) == 0) = false := by rw [beq_eq_false_iff_ne]; omega
        subst hn1
        rw [if_neg (fun e => hx0 e.2)]
        go_enter Tryz.func154, Tryz.ntmps154
        go_wp2_with (go_at_call 164; refine (CW.out _).mono ?_; rintro e w' ⟨rfl, rfl⟩)
        refine bodyPost_ret (v := placeV (0, 1)) (by simp [results, Tryz.results154, go_sem, placeV]) rfl ⟨rfl, ?_⟩
        exact ((Below.refl _ w).alloc (Nat.le_refl _) _).alloc (by simp) _
    · have hn2 : ((n : Int) == 1) = false := by rw [beq_eq_false_iff_ne]; omega
      rw [if_neg (fun e => hn1 e.1)]
      go_enter Tryz.func154, Tryz.ntmps154
      go_wp2_with (go_at_call 164; refine (CW.out _).mono ?_; rintro e w' ⟨rfl, rfl⟩)
      refine bodyPost_ret (v := placeV (0, 1)) (by simp [results, Tryz.results154, go_sem, placeV]) rfl ⟨rfl, ?_⟩
      exact ((Below.refl _ w).alloc (Nat.le_refl _) _).alloc (by simp) _

/-- Odds in a block of their own. -/
def OddsAt (w : World) (b : Nat) (o : Nat × Nat) : Prop := w.heap[b]? = some (.cells #[.int .u64 (o.1 : Int), .int .u64 (o.2 : Int)] 146 (0, 0))

set_option maxHeartbeats 400000 in
set_option maxRecDepth 100000 in
theorem count_any (b : Nat) (o : Nat × Nat) (x : Nat) (w : World) (hx : x < 2) (ho : o.1 + o.2 ≤ 1000000) (h : OddsAt w b o) :
    Calls Tryz.prog 153 #[.pointer (some ⟨b, 0, none⟩), .int .i64 (x : Int)] w fun e w' => e = .returned (.tuple #[]) ∧ OddsAt w' b (Co.cnt o x) ∧ OnlyAt b w w' := by
  obtain ⟨z, n⟩ := o
  have c0 : w.cell? ⟨b, 0, none⟩ = some (.int .u64 (z : Int)) := by rw [Lib.cell_of_heap h]; rfl
  have c1 : w.cell? ⟨b, 1, none⟩ = some (.int .u64 (n : Int)) := by rw [Lib.cell_of_heap h]; rfl
  have f0 : w.frozen? ⟨b, 0, none⟩ = false := Lib.frozen_of_heap h 0
  have f1 : w.frozen? ⟨b, 1, none⟩ = false := Lib.frozen_of_heap h 1
  have H := hide h
  clear h
  simp only at ho
  have e0 : IntKind.u64.wrap ((z : Int) + 1) = (z : Int) + 1 := IntWalk.u64_in _ (by omega)
  have e1 : IntKind.u64.wrap ((n : Int) + 1) = (n : Int) + 1 := IntWalk.u64_in _ (by omega)
  go_enter Tryz.func153, Tryz.ntmps153
  rcases (show x = 0 ∨ x = 1 by omega) with rfl | rfl
  · go_wp2
    go_end0
    refine ⟨rfl, ?_, OnlyAt.set' _ _ _ _⟩
    unfold OddsAt
    rw [heap_setCell_same _ _ _ _ _ _ H.out]
    rfl
  · go_wp2
    go_end0
    refine ⟨rfl, ?_, OnlyAt.set' _ _ _ _⟩
    unfold OddsAt
    rw [heap_setCell_same _ _ _ _ _ _ H.out]
    rfl
end Go.Proofs.YtkiindkoiomieaaGreatDoor
end

section
/-
  P7: the walks of follower: a map by places.
-/
namespace Go.Proofs.YtkiindkoiomieaaGreatDoor
open Go.RowKit Go.Maps

theorem Tryz.rowPlace : (160 : TypeId) < Tryz.prog.types.size := of_decide_eq_true (by kernel_rfl)
theorem Tryz.cellsPlace : Tryz.prog.cellsOf 160 = 2 := by kernel_rfl
theorem Tryz.widePlace : (match Tryz.prog.underlying 160 with | some (.array _ _) | some (.struct _) => true | _ => false) = true := by rw [Tryz.underlying160]
set_option maxRecDepth 100000 in
theorem lawPlace : Keyed Tryz.prog 160 := Keyed.of_law (deep_law_laid Tryz.laidOut (m := 2) (by omega) Tryz.rowPlace (by kernel_rfl) Tryz.widePlace)
theorem Tryz.keyPlace : Tryz.prog.keyType 160 = true := by kernel_rfl

/-- A place as a map's key. -/
def kq (p : Co.Pl) : Lit := kp ((p.1 : Int), (p.2 : Int))

theorem wf_nat {n : Nat} (h : n < 4611686018427387904) : (Lit.int .i64 (n : Int)).wf = true := WalkArith.wf_i64 (by omega)

set_option maxRecDepth 100000 in
theorem place_key (p : Co.Pl) (h1 : p.1 < 4611686018427387904) (h2 : p.2 < 4611686018427387904) : keyOf Tryz.prog 160 (placeV p) = some (kq p) := by
  have w1 := wf_nat h1
  have w2 := wf_nat h2
  have hf : (placeV p).formed Tryz.prog 160 = true := by simp [placeV, Value.formed, Tryz.underlying160, Tryz.cellsPlace]
  have hl : Tryz.prog.keyLits (Tryz.prog.types.size + 1) 160 [.int .i64 (p.1 : Int), .int .i64 (p.2 : Int)] = some [.int .i64 (p.1 : Int), .int .i64 (p.2 : Int)] := by
    obtain ⟨m, hm⟩ : ∃ m, Tryz.prog.types.size = m + 1 := pos_succ Tryz.rowPlace
    rw [hm]
    simp [Program.keyLits, Tryz.underlying160, Tryz.cellsPlace, Tryz.cells3, Tryz.underlying3, w1, w2, List.range, List.range.loop]
  unfold keyOf
  rw [Tryz.underlying160]
  simp only [Tryz.keyPlace, hf, Bool.and_self, if_true]
  show Option.map _ (Tryz.prog.keyLits (Tryz.prog.types.size + 1) 160 [.int .i64 (p.1 : Int), .int .i64 (p.2 : Int)]) = _
  rw [hl]
  rfl

theorem kq_inj {p q : Co.Pl} (hp1 : p.1 < 4611686018427387904) (hp2 : p.2 < 4611686018427387904) (hq1 : q.1 < 4611686018427387904) (hq2 : q.2 < 4611686018427387904) (h : kq p = kq q) : p = q := by
  have k1 := place_key p hp1 hp2
  have k2 := place_key q hq1 hq2
  rw [h] at k1
  have := lawPlace.inj k1 k2
  simp only [placeV, Value.agg.injEq, Array.mk.injEq, List.cons.injEq, Value.int.injEq, true_and, and_true] at this
  obtain ⟨a, b⟩ := p
  obtain ⟨c, d⟩ := q
  simp only at this
  simp only [Prod.mk.injEq]
  omega

/-- How odds read. -/
def oddsElem : Value → Option (DataW Unit × List MemPlace)
  | .agg cs => match cs.toList with
    | [.int .u64 a, .int .u64 b] => some (.agg [.lit (.int .u64 a), .lit (.int .u64 b)], [])
    | _ => none
  | _ => none
def oddsD (o : Nat × Nat) : DataW Unit := .agg [.lit (.int .u64 (o.1 : Int)), .lit (.int .u64 (o.2 : Int))]

theorem oddsElem_mk (o : Nat × Nat) : oddsElem (oddsV o) = some (oddsD o, []) := rfl
theorem oddsElem_inv {v : Value} {o : Nat × Nat} {ps : List MemPlace} (h : oddsElem v = some (oddsD o, ps)) : v = oddsV o := by
  unfold oddsElem at h
  split at h
  · rename_i cs
    split at h
    · rename_i a b hcs
      simp only [oddsD, Option.some.injEq, Prod.mk.injEq, DataW.agg.injEq, List.cons.injEq, DataW.lit.injEq, Lit.int.injEq, true_and, and_true] at h
      obtain ⟨⟨rfl, rfl⟩, _⟩ := h
      unfold oddsV
      congr 1
      apply Array.ext'
      rw [hcs]
    · cases h
  · cases h

/-- What the map tells of the odds. -/
def Met (D : DataW Unit) (m : Co.Pl → Nat × Nat) : Prop := ∀ p : Co.Pl, p.1 < 4611686018427387904 → p.2 < 4611686018427387904 → (has D (kq p) = true → ∀ z, D.atKey (kq p) z = oddsD (m p)) ∧ (has D (kq p) = false → m p = (1, 1))

theorem met_empty : Met (.map []) (fun _ => (1, 1)) := fun p _ _ => ⟨fun h => by simp [has] at h, fun _ => rfl⟩

theorem Met.pass {D : DataW Unit} {f : Co.Fo} (h : Met D f.met) (hD : IsMap D) (b : Nat) (hp1 : f.pl.1 < 4611686018427387904) (hp2 : f.pl.2 < 4611686018427387904) : Met (D.put (kq f.pl) (oddsD (Co.cnt f.odds b))) (f.pass b).met := by
  intro p h1 h2
  have kx := place_key f.pl hp1 hp2
  unfold Co.Fo.pass Co.Fo.odds
  simp only
  by_cases e : p = f.pl
  · subst e
    rw [if_pos rfl, has_put_same hD (lawPlace.key kx)]
    exact ⟨fun _ z => atKey_put_same hD (lawPlace.key kx) _ z, fun h => by simp at h⟩
  · have hne : kq p ≠ kq f.pl := fun e' => e (kq_inj h1 h2 hp1 hp2 e')
    rw [if_neg e, has_put_other hne]
    exact ⟨fun hh z => by rw [atKey_put_other hne]; exact (h p h1 h2).1 hh z, (h p h1 h2).2⟩

/-- What follower's functions keep. -/
structure FoAt (bc bm ba mb n : Nat) (f : Co.Fo) (w : World) : Prop where
  hC : w.heap[bc]? = some (.cells #[.func (.func 151) #[] #[.pointer (some ⟨bm, 0, none⟩), .pointer (some ⟨ba, 0, none⟩)]] 141 (0, 0))
  hM : w.heap[bm]? = some (.cells #[.map (some mb)] 159 (0, 0))
  hA : w.heap[ba]? = some (.cells #[.int .i64 (f.pl.1 : Int), .int .i64 (f.pl.2 : Int)] 160 (0, 0))
  hmap : ∃ D, w.ownsMap Tryz.prog 160 oddsElem mb n D ∧ Met D f.met
  ok : f.Ok n
  p1 : f.pl.1 ≤ 1
  p2 : 1 ≤ f.pl.2

theorem FoAt.apart {bc bm ba mb n : Nat} {f : Co.Fo} {w : World} (h : FoAt bc bm ba mb n f w) : bc ≠ ba ∧ bm ≠ ba ∧ bc ≠ mb ∧ bm ≠ mb := by
  obtain ⟨D, ⟨es, clock, hb, _⟩, _⟩ := h.hmap
  have h1 := h.hC
  have h2 := h.hM
  have h3 := h.hA
  refine ⟨fun e => ?_, fun e => ?_, fun e => ?_, fun e => ?_⟩
  · rw [e, h3] at h1
    simp at h1
  · rw [e, h3] at h2
    simp at h2
  · rw [e, hb] at h1
    simp at h1
  · rw [e, hb] at h2
    simp at h2

theorem bhd_fst {p : Co.Pl} {b : Nat} (h : p.1 ≤ 1) : (Co.bhd p b).1 ≤ 1 := by
  unfold Co.bhd
  split
  · split <;> simp
  · exact h
theorem bhd_snd1 {p : Co.Pl} {b : Nat} (h : 1 ≤ p.2) : 1 ≤ (Co.bhd p b).2 := by
  rw [Co.bhd_snd]
  unfold Co.stq
  split <;> omega

theorem FoAt.keep {bc bm ba mb n : Nat} {f : Co.Fo} {w w' : World} (h : FoAt bc bm ba mb n f w) (hk : ∀ k, k = bc ∨ k = bm ∨ k = ba ∨ k = mb → w'.heap[k]? = w.heap[k]?) : FoAt bc bm ba mb n f w' := by
  obtain ⟨D, ⟨es, clock, hb, r⟩, hm⟩ := h.hmap
  exact ⟨by rw [hk bc (.inl rfl)]; exact h.hC, by rw [hk bm (.inr (.inl rfl))]; exact h.hM, by rw [hk ba (.inr (.inr (.inl rfl)))]; exact h.hA, ⟨D, ⟨es, clock, by rw [hk mb (.inr (.inr (.inr rfl)))]; exact hb, r⟩, hm⟩, h.ok, h.p1, h.p2⟩

theorem Tryz.zeroOdds (W : World) : (zeroValue 146).run Tryz.prog W = .ok (oddsV (0, 0)) W := by kernel_rfl

set_option maxHeartbeats 1000000 in
set_option maxRecDepth 100000 in
theorem coming_any (bc bm ba mb n : Nat) (f : Co.Fo) (w : World) (h : FoAt bc bm ba mb n f w) (hp2 : f.pl.2 < 2305843009213693952) :
    Calls Tryz.prog 151 #[.pointer (some ⟨bm, 0, none⟩), .pointer (some ⟨ba, 0, none⟩)] w fun e w' => e = .returned (oddsV f.odds) ∧ Below w.heap.size w w' := by
  obtain ⟨D, hown, hmet⟩ := h.hmap
  have c1 : w.cell? ⟨bm, 0, none⟩ = some (.map (some mb)) := by rw [Lib.cell_of_heap h.hM]; rfl
  have c2 : w.cell? ⟨ba, 0, none⟩ = some (.int .i64 (f.pl.1 : Int)) := by rw [Lib.cell_of_heap h.hA]; rfl
  have c3 : w.cell? ⟨ba, 1, none⟩ = some (.int .i64 (f.pl.2 : Int)) := by rw [Lib.cell_of_heap h.hA]; rfl
  have hl1 := heap_lt0 h.hM
  have hl2 := heap_lt0 h.hA
  have hp1 := h.p1
  have hkey := place_key f.pl (by omega) (by omega)
  have hm := hmet f.pl (by omega) (by omega)
  unfold placeV at hkey
  have HK := hide hkey
  have HM := hide hm
  clear h hmet hkey hm
  cases hhas : has D (kq f.pl) with
  | true =>
    have hval : ∀ v ps, oddsElem v = some (D.atKey (kq f.pl) (oddsD (0, 0)), ps) → v = oddsV f.odds := fun v ps hv => by
      rw [HM.out.1 hhas] at hv
      exact oddsElem_inv hv
    have HV := hide hval
    clear hval
    go_enter Tryz.func151, Tryz.ntmps151
    go_wp2_with (first
      | (at_lookup; refine wpList_lookup_own_ok _ rfl _ _ 159 rfl 160 146 lawPlace Tryz.underlying159 oddsElem (Tryz.zeroOdds _) (oddsD (0, 0)) [] (oddsElem_mk _) mb n D rfl (hown.alloc _) _ (kq f.pl) rfl HK.out ?_; intro v ps hv; rw [hhas]; obtain rfl := HV.out v ps hv; unfold oddsV))
    refine bodyPost_ret (v := oddsV f.odds) (by simp [results, Tryz.results151, go_sem, oddsV]) rfl ⟨rfl, ?_⟩
    exact ((Below.refl _ w).alloc (Nat.le_refl _) _).alloc (by simp) _
  | false =>
    have hodds : f.odds = (1, 1) := HM.out.2 hhas
    have hval : ∀ v ps, oddsElem v = some (D.atKey (kq f.pl) (oddsD (0, 0)), ps) → v = oddsV (0, 0) := fun v ps hv => by
      rw [atKey_of_not_has hhas] at hv
      exact oddsElem_inv hv
    have HV := hide hval
    rw [hodds]
    clear hval hodds HM
    go_enter Tryz.func151, Tryz.ntmps151
    go_wp2_with (first
      | (at_lookup; refine wpList_lookup_own_ok _ rfl _ _ 159 rfl 160 146 lawPlace Tryz.underlying159 oddsElem (Tryz.zeroOdds _) (oddsD (0, 0)) [] (oddsElem_mk _) mb n D rfl (hown.alloc _) _ (kq f.pl) rfl HK.out ?_; intro v ps hv; rw [hhas]; obtain rfl := HV.out v ps hv; unfold oddsV))
    refine bodyPost_ret (v := oddsV (1, 1)) (by simp [results, Tryz.results151, go_sem, oddsV]) rfl ⟨rfl, ?_⟩
    exact ((Below.refl _ w).alloc (Nat.le_refl _) _).alloc (by simp) _

set_option maxHeartbeats 1000000 in
set_option maxRecDepth 100000 in
theorem pass_any (bc bm ba mb n : Nat) (f : Co.Fo) (x : Nat) (w : World) (h : FoAt bc bm ba mb n f w) (hp2 : f.pl.2 < 2305843009213693952) (hn : n ≤ 500000) (hx : x < 2) :
    Calls Tryz.prog 152 #[.int .i64 (x : Int), .pointer (some ⟨bc, 0, none⟩), .pointer (some ⟨bm, 0, none⟩), .pointer (some ⟨ba, 0, none⟩)] w fun e w' => e = .returned (.tuple #[]) ∧ FoAt bc bm ba mb (n + 1) (f.pass x) w' ∧ Frm [ba, mb] w w' := by
  obtain ⟨D, hown, hmet⟩ := h.hmap
  have hp1 := h.p1
  have hq2 := h.p2
  have hok := h.ok
  have hokp := h.ok f.pl
  have cC : w.cell? ⟨bc, 0, none⟩ = some (.func (.func 151) #[] #[.pointer (some ⟨bm, 0, none⟩), .pointer (some ⟨ba, 0, none⟩)]) := by rw [Lib.cell_of_heap h.hC]; rfl
  have CC := hide (coming_any bc bm ba mb n f w h hp2)
  have hlc := heap_lt0 h.hC
  have hlm := heap_lt0 h.hM
  have hla := heap_lt0 h.hA
  have hlb := hown.lt
  have hkey := place_key f.pl (by omega) (by omega)
  unfold placeV at hkey
  have HK := hide hkey
  have H := hide h
  have HMET := hide (hmet.pass hown.isMap x (by omega) (by omega))
  have CB := hide (fun W => behind_any f.pl x W hq2 hp2 hp1 hx)
  have hne : ba ≠ mb := fun e => by
    obtain ⟨es, clock, hb, _⟩ := hown
    have := h.hA
    rw [e, hb] at this
    simp at this
  clear h hmet hkey
  go_enter Tryz.func152, Tryz.ntmps152
  go_wp2_with fail
  go_at_call 151
  refine CC.out.mono ?_
  rintro e w1 ⟨rfl, hb1⟩
  have ho : f.odds.1 + f.odds.2 ≤ 1000000 := by
    have : f.odds = f.met f.pl := rfl
    rw [this]
    omega
  have CN := hide (fun W hW => count_any w1.heap.size f.odds x W hx ho hW)
  unfold oddsV
  go_wp2_with fail
  go_at_call 153
  refine (CN.out _ (heap_alloc_new _ _)).mono ?_
  rintro e w2 ⟨rfl, hO2, hon2⟩
  have hs1 := hb1.size
  have hb2 : Below w.heap.size w w2 := (hb1.alloc hs1 _).grown hon2.1 (by simp; omega) (fun j hj => by cases hj; exact hs1)
  have hs2 := hb2.size
  have H2 : FoAt bc bm ba mb n f w2 := H.out.keep (fun k hk => hb2.block k (by rcases hk with rfl | rfl | rfl | rfl <;> assumption))
  have hown2 : w2.ownsMap Tryz.prog 160 oddsElem mb n D := hown.kept (grown_of_below hb2 none) (by simp)
  have c1 : w2.cell? ⟨bm, 0, none⟩ = some (.map (some mb)) := by rw [Lib.cell_of_heap H2.hM]; rfl
  have c2 : w2.cell? ⟨ba, 0, none⟩ = some (.int .i64 (f.pl.1 : Int)) := by rw [Lib.cell_of_heap H2.hA]; rfl
  have c3 : w2.cell? ⟨ba, 1, none⟩ = some (.int .i64 (f.pl.2 : Int)) := by rw [Lib.cell_of_heap H2.hA]; rfl
  have d0 : w2.cell? ⟨w1.heap.size, 0, none⟩ = some (.int .u64 ((Co.cnt f.odds x).1 : Int)) := by rw [Lib.cell_of_heap hO2]; rfl
  have d1 : w2.cell? ⟨w1.heap.size, 1, none⟩ = some (.int .u64 ((Co.cnt f.odds x).2 : Int)) := by rw [Lib.cell_of_heap hO2]; rfl
  have HF2 := hide H2
  clear hO2 hon2 H2
  go_wp2_with (first
    | (at_mapUpdate; refine wpList_mapUpdate_own _ rfl _ _ _ 159 rfl 160 146 lawPlace Tryz.underlying159 _ mb n D rfl hown2 (by unfold maxLen; omega) _ _ (kq f.pl) rfl rfl HK.out _ [] (oddsElem_mk (Co.cnt f.odds x)) ?_; intro w3 hown3 hgrow3; (have e2 : w3.cell? ⟨ba, 0, none⟩ = some (.int .i64 (f.pl.1 : Int)) := by (rw [World.cell?_of_block (hgrow3.block ba (by omega) (by simpa using hne))]; exact c2)); (have e3 : w3.cell? ⟨ba, 1, none⟩ = some (.int .i64 (f.pl.2 : Int)) := by (rw [World.cell?_of_block (hgrow3.block ba (by omega) (by simpa using hne))]; exact c3))))
  go_at_call 154
  refine (CB.out _).mono ?_
  rintro e w4 ⟨rfl, hb4⟩
  have hs3 := hgrow3.size
  have hs4 := hb4.size
  have H3 : ∀ k, k < w2.heap.size → k ≠ mb → w4.heap[k]? = w2.heap[k]? := fun k hk hkm => (hb4.block k (by omega)).trans (hgrow3.block k hk (by simpa using hkm))
  have hA4 : w4.heap[ba]? = some (.cells #[.int .i64 (f.pl.1 : Int), .int .i64 (f.pl.2 : Int)] 160 (0, 0)) := by rw [H3 ba (by omega) hne]; exact HF2.out.hA
  have g2 : w4.cell? ⟨ba, 0, none⟩ = some (.int .i64 (f.pl.1 : Int)) := by rw [Lib.cell_of_heap hA4]; rfl
  have g3 : w4.cell? ⟨ba, 1, none⟩ = some (.int .i64 (f.pl.2 : Int)) := by rw [Lib.cell_of_heap hA4]; rfl
  have fz : w4.frozen? ⟨ba, 0, none⟩ = false := Lib.frozen_of_heap hA4 0
  have fz1 : w4.frozen? ⟨ba, 1, none⟩ = false := Lib.frozen_of_heap hA4 1
  have hown4 := hown3.kept (grown_of_below hb4 none) (by simp)
  have HA4 := hide hA4
  clear hA4
  unfold placeV
  go_wp2
  go_end0
  obtain ⟨hnca, hnma, hncb, hnmb⟩ := H.out.apart
  have hW : ∀ (a b : Value) k, k ≠ ba → ((w4.setCell ⟨ba, 0, none⟩ a).setCell ⟨ba, 1, none⟩ b).heap[k]? = w4.heap[k]? := fun a b k hk => by
    rw [heap_setCell_other _ _ _ _ (by exact hk), heap_setCell_other _ _ _ _ (by exact hk)]
  refine ⟨rfl, ⟨?_, ?_, ?_, ⟨_, (hown4.setCell (a := ⟨ba, 0, none⟩) (fun e => hne e.symm) _).setCell (a := ⟨ba, 1, none⟩) (fun e => hne e.symm) _, HMET.out⟩, hok.pass x, bhd_fst hp1, bhd_snd1 hq2⟩, ?_⟩
  · rw [hW _ _ bc hnca, H3 bc (by omega) hncb]
    exact HF2.out.hC
  · rw [hW _ _ bm hnma, H3 bm (by omega) hnmb]
    exact HF2.out.hM
  · rw [heap_setCell_same _ _ _ _ _ _ (heap_setCell_same _ _ _ _ _ _ HA4.out)]
    rfl
  · refine ⟨?_, ?_, ?_, ?_, fun k hk hx => ?_⟩
    · show w4.os = _
      rw [hb4.os, hgrow3.os, hb2.os]
    · show w4.tape = _
      rw [hb4.tape, hgrow3.tape, hb2.tape]
    · show w4.output = _
      rw [hb4.output, hgrow3.output, hb2.output]
    · simp
      omega
    · have hka : k ≠ ba := fun e => hx (by simp [e])
      have hkb : k ≠ mb := fun e => hx (by simp [e])
      rw [hW _ _ k hka, H3 k (by omega) hkb, hb2.block k hk]

theorem four_new (w : World) (a b c d : Obj) : ((((w.alloc a).alloc b).alloc c).alloc d).heap[w.heap.size]? = some a ∧ ((((w.alloc a).alloc b).alloc c).alloc d).heap[w.heap.size + 1]? = some b ∧ ((((w.alloc a).alloc b).alloc c).alloc d).heap[w.heap.size + 1 + 1]? = some c ∧ ((((w.alloc a).alloc b).alloc c).alloc d).heap[w.heap.size + 1 + 1 + 1]? = some d ∧ ((((w.alloc a).alloc b).alloc c).alloc d).heap.size = w.heap.size + 4 ∧ Below w.heap.size w ((((w.alloc a).alloc b).alloc c).alloc d) := by
  have e1 : (w.alloc a).heap.size = w.heap.size + 1 := by simp
  have e2 : ((w.alloc a).alloc b).heap.size = w.heap.size + 1 + 1 := by simp
  have e3 : (((w.alloc a).alloc b).alloc c).heap.size = w.heap.size + 1 + 1 + 1 := by simp
  have n1 := heap_alloc_new w a
  have n2 := heap_alloc_new (w.alloc a) b
  have n3 := heap_alloc_new ((w.alloc a).alloc b) c
  have n4 := heap_alloc_new (((w.alloc a).alloc b).alloc c) d
  rw [e1] at n2
  rw [e2] at n3
  rw [e3] at n4
  refine ⟨?_, ?_, ?_, n4, by simp, (((((Below.refl _ w).alloc (Nat.le_refl _) _).alloc (by simp) _).alloc (by simp; omega) _).alloc (by simp; omega) _)⟩
  · rw [Lib.alloc_old _ _ _ (by omega), Lib.alloc_old _ _ _ (by omega), Lib.alloc_old _ _ _ (by omega)]
    exact n1
  · rw [Lib.alloc_old _ _ _ (by omega), Lib.alloc_old _ _ _ (by omega)]
    exact n2
  · rw [Lib.alloc_old _ _ _ (by omega)]
    exact n3

set_option maxHeartbeats 400000 in
set_option maxRecDepth 100000 in
theorem follower_any (w : World) :
    Calls Tryz.prog 130 #[] w fun e w' => ∃ bc bm ba mb, e = .returned (.tuple #[.func (.func 151) #[] #[.pointer (some ⟨bm, 0, none⟩), .pointer (some ⟨ba, 0, none⟩)], .func (.func 152) #[] #[.pointer (some ⟨bc, 0, none⟩), .pointer (some ⟨bm, 0, none⟩), .pointer (some ⟨ba, 0, none⟩)]]) ∧ FoAt bc bm ba mb 0 Co.fo0 w' ∧ Below w.heap.size w w' ∧ w.heap.size ≤ bc ∧ w.heap.size ≤ bm ∧ w.heap.size ≤ ba ∧ w.heap.size ≤ mb := by
  have hmk : ∀ W : World, (Instr.makeMap 159 none).run Tryz.prog W = .ok (.map (some W.heap.size)) (W.alloc (.map #[] 0)) := fun W => by simp [Instr.makeMap, go_sem]
  have hmf : ∀ (fn : Fn) (first cap : Array Value) (w : World), (Instr.makeFunc fn first cap).run Tryz.prog w = .ok (.func fn first cap) w := fun _ _ _ _ => rfl
  have hsf : ∀ (W : World) (x : Addr) (fn : Fn) (fs : Array Value), (store x (.func fn #[] fs)).run Tryz.prog W = stored Tryz.prog W x (.func fn #[] fs) .plain := fun W x fn fs => run_store _ _ _ _ _ rfl
  go_enter Tryz.func130, Tryz.ntmps130
  go_wp2
  obtain ⟨F1, hF1⟩ : ∃ F1 : Value, F1 = .func (.func 151) #[] #[.pointer (some ⟨w.heap.size + 1 + 1, 0, none⟩), .pointer (some ⟨w.heap.size + 1 + 1 + 1, 0, none⟩)] := ⟨_, rfl⟩
  obtain ⟨h0, h1, h2, h3, hsz, hbl⟩ := four_new w (.cells #[F1] 141) (.map #[] 0) (.cells #[.map (some (w.heap.size + 1))] 159) (.cells #[.int .i64 0, .int .i64 1] 160)
  have hom : ((((w.alloc (.cells #[F1] 141)).alloc (.map #[] 0)).alloc (.cells #[.map (some (w.heap.size + 1))] 159)).alloc (.cells #[.int .i64 0, .int .i64 1] 160)).ownsMap Tryz.prog 160 oddsElem (w.heap.size + 1) 0 (.map []) := by
    have := World.ownsMap_made (H := Unit) (w.alloc (.cells #[F1] 141)) Tryz.prog 160 oddsElem
    rw [show (w.alloc (.cells #[F1] 141)).heap.size = w.heap.size + 1 by simp] at this
    exact (this.alloc _).alloc _
  rw [← hF1]
  refine bodyPost_ret (v := .tuple #[F1, .func (.func 152) #[] #[.pointer (some ⟨w.heap.size, 0, none⟩), .pointer (some ⟨w.heap.size + 1 + 1, 0, none⟩), .pointer (some ⟨w.heap.size + 1 + 1 + 1, 0, none⟩)]]) (by simp [results, Tryz.results130, go_sem]) rfl ⟨w.heap.size, w.heap.size + 1 + 1, w.heap.size + 1 + 1 + 1, w.heap.size + 1, by rw [hF1], ⟨by rw [h0, hF1], h2, h3, ⟨_, hom, met_empty⟩, Co.fo0_ok, by decide, by decide⟩, hbl, by omega, by omega, by omega, by omega⟩
end Go.Proofs.YtkiindkoiomieaaGreatDoor
end

section
/-
  P7: the walks of likelyWriter.
-/
namespace Go.Proofs.YtkiindkoiomieaaGreatDoor
open Go.RowKit

/-- A builder whose bytes lie above a place, while it lies below. -/
def BldAt (b B : Nat) (l : List UInt8) (w : World) : Prop := b < B ∧ ∃ p v, (p = .pointer none ∨ p = .pointer (some ⟨b, 0, none⟩)) ∧ w.heap[b]? = some (.cells #[p, v] 83 (0, 0)) ∧ w.ownsRow B 5 1 v l.length (Lib.byteCells l)

theorem BldAt.is {b B : Nat} {l : List UInt8} {w : World} (h : BldAt b B l w) : Lib.IsBuilder 83 5 b b (Lib.byteCells l) w := by
  obtain ⟨hbB, p, v, hp, hb, hown⟩ := h
  have hne : v.ownBlock ≠ some b := fun e => by have := (hown.lt b e).1; omega
  have key : Lib.BuilderAt 83 5 b b p (Lib.byteCells l) w := ⟨Nat.le_refl _, v, hb, by rw [Lib.byteCells_length]; exact owns_base hown (by omega), hne⟩
  rcases hp with rfl | rfl
  · exact .inl key
  · exact .inr key

set_option maxHeartbeats 1000000 in
set_option maxRecDepth 100000 in
theorem writeFine_any (b B : Nat) (l : List UInt8) (c : UInt8) (w : World) (h : BldAt b B l w) (hlen : l.length ≤ 1000000) (hBw : B ≤ w.heap.size) :
    Calls Tryz.prog 63 #[.pointer (some ⟨b, 0, none⟩), .int .u8 (c.toNat : Int)] w fun e w' => e = .returned .nilIface ∧ BldAt b B (l ++ [c]) w' ∧ But B [b] w w' := by
  obtain ⟨hbB, p, v, hp, hb, hown⟩ := h
  obtain ⟨i0, hi, hz0, hz1, hz2⟩ := info_parts Tryz.info5
  have cC : Calls Tryz.prog 98 #[.pointer (some ⟨b, 0, none⟩)] w fun e w' => e = .returned (.tuple #[]) ∧ w'.heap[b]? = some (.cells #[.pointer (some ⟨b, 0, none⟩), v] 83 (0, 0)) ∧ OnlyAt b w w' := by
    have c0 : w.cell? ⟨b, 0, none⟩ = some p := by rw [Lib.cell_of_heap hb]; rfl
    rcases hp with rfl | rfl
    · refine (check_fresh b w c0 (by simp [World.shape?, hb]) (Lib.frozen_of_heap hb 0)).mono ?_
      rintro e w' ⟨rfl, rfl⟩
      exact ⟨rfl, by rw [heap_setCell_same _ _ _ _ _ _ hb]; rfl, OnlyAt.set' _ _ _ _⟩
    · refine (check_used b w c0).mono ?_
      rintro e w' ⟨rfl, rfl⟩
      exact ⟨rfl, hb, OnlyAt.refl _ _⟩
  have CC := hide cC
  clear cC
  go_enter Tryz.func63, Tryz.ntmps63
  go_wp2_with (go_at_call 98; refine CC.out.mono ?_)
  rintro e w1 ⟨rfl, hb1, ho1⟩
  have hs1 : w.heap.size ≤ w1.heap.size := by rw [ho1.2]; exact Nat.le_refl _
  have hown1 : w1.ownsRow B 5 1 v l.length (Lib.byteCells l) := owns_at hown ho1 hbB
  have c1 : w1.cell? ⟨b, 1, none⟩ = some v := by rw [Lib.cell_of_heap hb1]; rfl
  go_wp2_with (at_builtin; refine wpList_append_own _ rfl _ _ 81 rfl B 5 i0 (.int .u8 0) 1 1 Tryz.underlying81 hi hz0 hz1 hz2 rfl (by decide) _ _ _ rfl (hown1.alloc _) ⟨w1.heap.size, 0, none⟩ 1 1 [.int .u8 (c.toNat : Int)] rfl rfl (cell_one_new _ _ _) (fun x hx => by simp at hx; subst hx; rfl) (by unfold maxLen; omega) (by omega) (by simp; omega) ?_)
  intro v' w2 hown' hgrow _
  have hlt : b < w1.heap.size := by omega
  have hb2 : w2.heap[b]? = some (.cells #[.pointer (some ⟨b, 0, none⟩), v] 83 (0, 0)) := by
    rw [hgrow.block b (by simp; omega) (fun e => by have := (hown1.lt b e.symm).1; omega), Lib.alloc_old w1 _ b hlt]
    exact hb1
  have d1 : w2.cell? ⟨b, 1, none⟩ = some v := by rw [Lib.cell_of_heap hb2]; rfl
  have f1 : w2.frozen? ⟨b, 1, none⟩ = false := Lib.frozen_of_heap hb2 1
  obtain ⟨g, cap, rfl⟩ : ∃ g cap, v' = .slice (some ⟨g, 0, none⟩) (l.length + 1) cap := by
    rcases hown'.2 with ⟨_, h0⟩ | ⟨g, cap, cur, hv, _⟩
    · omega
    · exact ⟨g, cap, hv⟩
  go_wp2
  go_ret
  refine ⟨rfl, ⟨hbB, _, _, .inr rfl, by rw [heap_setCell_same _ _ _ _ _ _ hb2]; rfl, ?_⟩, ?_⟩
  · rw [← byteCells_snoc, List.length_append]
    exact owns_at hown' (OnlyAt.set' b 1 w2 _) hbB
  · have k1 : But B [b] w w1 := ho1.but hBw
    have k2 : But B [b] w1 w2 := ⟨hgrow.os, hgrow.tape, hgrow.output, by have := hgrow.size; simp at this; omega, fun k hk hx => by
      rw [hgrow.block k (by simp; omega) (fun e => by have := (hown1.lt k e.symm).1; omega), Lib.alloc_old w1 _ k (by omega)]⟩
    exact (k1.trans k2).trans (but_set B b 1 w2 _)

theorem ch_map_snoc' (l : List Nat) (b : Nat) : l.map ch ++ [ch b] = (l ++ [b]).map ch := by
  rw [List.map_append]
  rfl

set_option maxHeartbeats 400000 in
set_option maxRecDepth 100000 in
theorem putFine_any (b B x : Nat) (l : List Nat) (w : World) (hx : x < 2) (h : BldAt b B (l.map ch) w) (hlen : l.length ≤ 1000000) (hBw : B ≤ w.heap.size) :
    Calls Tryz.prog 68 #[.int .i64 (x : Int), .pointer (some ⟨b, 0, none⟩)] w fun e w' => e = .returned (.tuple #[]) ∧ BldAt b B ((l ++ [x]).map ch) w' ∧ But B [b] w w' := by
  have cW := writeFine_any b B (l.map ch) (ch x) w h (by simpa using hlen) hBw
  rw [ch_toNat hx, ch_map_snoc' l x] at cW
  rw [Int.natCast_add] at cW
  have CW := hide cW
  clear h cW
  have h1 : IntKind.u8.wrap (x : Int) = x := IntWalk.u8_in _ (by omega)
  have h2 : IntKind.u8.wrap (48 + (x : Int)) = 48 + (x : Int) := IntWalk.u8_in _ (by omega)
  go_enter Tryz.func68, Tryz.ntmps68
  go_wp2_with (go_at_call 63; refine (unhide CW).mono ?_; rintro e w' ⟨rfl, hb, hbl⟩)
  go_end0
  exact ⟨rfl, hb, hbl⟩

/-- What the writer's functions keep. -/
structure LwAt (bl bcv bpv bput b B bc bm ba mb n : Nat) (c : Co.Wr) (ds : List Nat) (w : World) : Prop where
  sp : SpanAt w bl c.sp
  cv : w.heap[bcv]? = some (.cells #[.func (.func 151) #[] #[.pointer (some ⟨bm, 0, none⟩), .pointer (some ⟨ba, 0, none⟩)]] 141 (0, 0))
  pv : w.heap[bpv]? = some (.cells #[.func (.func 152) #[] #[.pointer (some ⟨bc, 0, none⟩), .pointer (some ⟨bm, 0, none⟩), .pointer (some ⟨ba, 0, none⟩)]] 48 (0, 0))
  put : w.heap[bput]? = some (.cells #[.func (.func 68) #[] #[.pointer (some ⟨b, 0, none⟩)]] 48 (0, 0))
  fo : FoAt bc bm ba mb n c.fo w
  bld : BldAt b B (ds.map ch) w
  lt : bl < B ∧ bcv < B ∧ bpv < B ∧ bput < B ∧ bc < B ∧ bm < B ∧ ba < B ∧ mb < B
  le : B ≤ w.heap.size

theorem LwAt.apart {bl bcv bpv bput b B bc bm ba mb n : Nat} {c : Co.Wr} {ds : List Nat} {w : World} (h : LwAt bl bcv bpv bput b B bc bm ba mb n c ds w) : (bcv ≠ bl ∧ bpv ≠ bl ∧ bput ≠ bl ∧ b ≠ bl ∧ bc ≠ bl ∧ bm ≠ bl ∧ ba ≠ bl ∧ mb ≠ bl) ∧ (bl ≠ b ∧ bcv ≠ b ∧ bpv ≠ b ∧ bput ≠ b ∧ bc ≠ b ∧ bm ≠ b ∧ ba ≠ b ∧ mb ≠ b) ∧ (bcv ≠ ba ∧ bpv ≠ ba ∧ bput ≠ ba ∧ bcv ≠ mb ∧ bpv ≠ mb ∧ bput ≠ mb) := by
  obtain ⟨D, ⟨es, clock, hmb, _⟩, _⟩ := h.fo.hmap
  obtain ⟨_, p, v, _, hb, _⟩ := h.bld
  have h1 : w.heap[bl]? = _ := h.sp
  have h2 := h.cv
  have h3 := h.pv
  have h4 := h.put
  have h5 := h.fo.hC
  have h6 := h.fo.hM
  have h7 := h.fo.hA
  refine ⟨⟨?_, ?_, ?_, ?_, ?_, ?_, ?_, ?_⟩, ⟨?_, ?_, ?_, ?_, ?_, ?_, ?_, ?_⟩, ?_, ?_, ?_, ?_, ?_, ?_⟩
  · exact fun e => by rw [e, h1] at h2; simp at h2
  · exact fun e => by rw [e, h1] at h3; simp at h3
  · exact fun e => by rw [e, h1] at h4; simp at h4
  · exact fun e => by rw [e, h1] at hb; simp at hb
  · exact fun e => by rw [e, h1] at h5; simp at h5
  · exact fun e => by rw [e, h1] at h6; simp at h6
  · exact fun e => by rw [e, h1] at h7; simp at h7
  · exact fun e => by rw [e, h1] at hmb; simp at hmb
  · exact fun e => by rw [e, hb] at h1; simp at h1
  · exact fun e => by rw [e, hb] at h2; simp at h2
  · exact fun e => by rw [e, hb] at h3; simp at h3
  · exact fun e => by rw [e, hb] at h4; simp at h4
  · exact fun e => by rw [e, hb] at h5; simp at h5
  · exact fun e => by rw [e, hb] at h6; simp at h6
  · exact fun e => by rw [e, hb] at h7; simp at h7
  · exact fun e => by rw [e, hb] at hmb; simp at hmb
  · exact fun e => by rw [e, h7] at h2; simp at h2
  · exact fun e => by rw [e, h7] at h3; simp at h3
  · exact fun e => by rw [e, h7] at h4; simp at h4
  · exact fun e => by rw [e, hmb] at h2; simp at h2
  · exact fun e => by rw [e, hmb] at h3; simp at h3
  · exact fun e => by rw [e, hmb] at h4; simp at h4

theorem BldAt.keep {b B : Nat} {l : List UInt8} {w w' : World} (h : BldAt b B l w) (hf : ∀ k, k = b ∨ B ≤ k → k < w.heap.size → w'.heap[k]? = w.heap[k]?) : BldAt b B l w' := by
  obtain ⟨hbB, p, v, hp, hb, hown⟩ := h
  refine ⟨hbB, p, v, hp, by rw [hf b (.inl rfl) (heap_lt0 hb)]; exact hb, hown.1, ?_⟩
  rcases hown.2 with h1 | ⟨g, cap, cur, h1, h2, h3, h4⟩
  · exact .inl h1
  · exact .inr ⟨g, cap, cur, h1, h2, by rw [hf g (.inr h2) (heap_lt0 h3)]; exact h3, h4⟩

theorem LwAt.span {bl bcv bpv bput b B bc bm ba mb n : Nat} {c : Co.Wr} {ds : List Nat} {w w' : World} {s : Co.Sp} (h : LwAt bl bcv bpv bput b B bc bm ba mb n c ds w) (hf : Frm [bl] w w') (hs : SpanAt w' bl s) : LwAt bl bcv bpv bput b B bc bm ba mb n ⟨s, c.fo⟩ ds w' := by
  obtain ⟨⟨a1, a2, a3, a4, a5, a6, a7, a8⟩, _, _⟩ := h.apart
  obtain ⟨l1, l2, l3, l4, l5, l6, l7, l8⟩ := h.lt
  have hle := h.le
  have key : ∀ k, k < w.heap.size → k ≠ bl → w'.heap[k]? = w.heap[k]? := fun k hk hne => But.block hf k hk (by simpa using hne)
  refine ⟨hs, by rw [key bcv (by omega) a1]; exact h.cv, by rw [key bpv (by omega) a2]; exact h.pv, by rw [key bput (by omega) a3]; exact h.put, h.fo.keep (fun k hk => ?_), h.bld.keep (fun k hk hlt => ?_), h.lt, by have := hf.size; omega⟩
  · rcases hk with rfl | rfl | rfl | rfl
    · exact key _ (by omega) a5
    · exact key _ (by omega) a6
    · exact key _ (by omega) a7
    · exact key _ (by omega) a8
  · rcases hk with rfl | hk
    · exact key _ hlt a4
    · exact key _ hlt (by omega)

theorem LwAt.pass {bl bcv bpv bput b B bc bm ba mb n n' : Nat} {c : Co.Wr} {f : Co.Fo} {ds : List Nat} {w w' : World} (h : LwAt bl bcv bpv bput b B bc bm ba mb n c ds w) (hf : Frm [ba, mb] w w') (hs : FoAt bc bm ba mb n' f w') : LwAt bl bcv bpv bput b B bc bm ba mb n' ⟨c.sp, f⟩ ds w' := by
  obtain ⟨⟨_, _, _, _, _, _, a7, a8⟩, ⟨_, _, _, _, _, _, d7, d8⟩, e1, e2, e3, e4, e5, e6⟩ := h.apart
  obtain ⟨l1, l2, l3, l4, l5, l6, l7, l8⟩ := h.lt
  have hle := h.le
  have key : ∀ k, k < w.heap.size → k ≠ ba → k ≠ mb → w'.heap[k]? = w.heap[k]? := fun k hk h1 h2 => But.block hf k hk (by simp; exact ⟨h1, h2⟩)
  refine ⟨?_, by rw [key bcv (by omega) e1 e4]; exact h.cv, by rw [key bpv (by omega) e2 e5]; exact h.pv, by rw [key bput (by omega) e3 e6]; exact h.put, hs, h.bld.keep (fun k hk hlt => ?_), h.lt, by have := hf.size; omega⟩
  · unfold SpanAt
    rw [key bl (by omega) (fun e => a7 e.symm) (fun e => a8 e.symm)]
    exact h.sp
  · rcases hk with rfl | hk
    · exact key _ hlt (fun e => d7 e.symm) (fun e => d8 e.symm)
    · exact key _ hlt (by omega) (by omega)

theorem LwAt.put' {bl bcv bpv bput b B bc bm ba mb n : Nat} {c : Co.Wr} {ds ds' : List Nat} {w w' : World} (h : LwAt bl bcv bpv bput b B bc bm ba mb n c ds w) (hf : But B [b] w w') (hs : BldAt b B (ds'.map ch) w') : LwAt bl bcv bpv bput b B bc bm ba mb n c ds' w' := by
  obtain ⟨_, ⟨d1, d2, d3, d4, d5, d6, d7, d8⟩, _⟩ := h.apart
  obtain ⟨l1, l2, l3, l4, l5, l6, l7, l8⟩ := h.lt
  have hle := h.le
  have key : ∀ k, k < B → k ≠ b → w'.heap[k]? = w.heap[k]? := fun k hk h1 => hf.block k hk (by simpa using h1)
  refine ⟨?_, by rw [key bcv l2 d2]; exact h.cv, by rw [key bpv l3 d3]; exact h.pv, by rw [key bput l4 d4]; exact h.put, h.fo.keep (fun k hk => ?_), hs, h.lt, by have := hf.size; omega⟩
  · unfold SpanAt
    rw [key bl l1 d1]
    exact h.sp
  · rcases hk with rfl | rfl | rfl | rfl
    · exact key _ l5 d5
    · exact key _ l6 d6
    · exact key _ l7 d7
    · exact key _ l8 d8

theorem frm_three {w W w1 w2 w3 : World} {bl : Nat} (hb1 : Below w.heap.size W w1) (hb2 : Below w1.heap.size w1 w2) (ho3 : OnlyAt bl w2 w3) (hW : W.heap = w.heap ∧ W.os = w.os ∧ W.tape = w.tape ∧ W.output = w.output := by exact ⟨rfl, rfl, rfl, rfl⟩) : Frm [bl] w w3 := by
  have hs1 := hb1.size
  rw [hW.1] at hs1
  have hs2 := hb2.size
  refine ⟨by rw [ho3.1.os, hb2.os, hb1.os, hW.2.1], by rw [ho3.1.tape, hb2.tape, hb1.tape, hW.2.2.1], by rw [ho3.1.output, hb2.output, hb1.output, hW.2.2.2], by rw [ho3.2]; omega, fun k hk hx => ?_⟩
  rw [ho3.1.block k (by omega) (fun e => hx (by cases e; simp)), hb2.block k (by omega), hb1.block k hk, hW.1]

/-- Digits that are settled yet. -/
def NormTo (s0 : Co.Sp) (g : Nat) (s : Co.Sp) (done : List Nat) : Prop := s.1 ≤ s.2 ∧ s.2 < 4294967296 ∧ 4294967296 < (s.2 + 1 - s.1) * 2 ^ g ∧ Co.normW 33 s0 = (done ++ (Co.normW g s).1, (Co.normW g s).2)

theorem NormTo.start {s0 : Co.Sp} (h1 : s0.1 ≤ s0.2) (h2 : s0.2 < 4294967296) : NormTo s0 33 s0 [] := by
  refine ⟨h1, h2, ?_, rfl⟩
  have : 1 * 2 ^ 33 ≤ (s0.2 + 1 - s0.1) * 2 ^ 33 := Nat.mul_le_mul_right _ (by omega)
  have e : (2 : Nat) ^ 33 = 8589934592 := by decide
  omega
theorem NormTo.pos {s0 s : Co.Sp} {g : Nat} {done : List Nat} (h : NormTo s0 g s done) (_hs : Co.settled s = true) : ∃ g', g = g' + 1 := by
  obtain ⟨h1, h2, h3, _⟩ := h
  cases g with
  | zero => simp at h3; omega
  | succ g => exact ⟨g, rfl⟩
theorem NormTo.next {s0 s : Co.Sp} {g : Nat} {done : List Nat} (h : NormTo s0 (g + 1) s done) (hs : Co.settled s = true) : NormTo s0 g (Co.dropT s) (done ++ [Co.top s.1]) := by
  obtain ⟨h1, h2, h3, h4⟩ := h
  obtain ⟨a, b, c⟩ := Co.drop_width h1 h2 hs
  refine ⟨a, b, ?_, ?_⟩
  · rw [c, Nat.mul_comm 2, Nat.mul_assoc]
    rw [Nat.pow_succ, Nat.mul_comm (2 ^ g) 2] at h3
    exact h3
  · rw [h4, Co.normW, if_pos hs, List.append_assoc]
    rfl
theorem NormTo.fin {s0 s : Co.Sp} {g : Nat} {done : List Nat} (h : NormTo s0 g s done) (hs : ¬ Co.settled s = true) : Co.normW 33 s0 = (done, s) := by
  obtain ⟨_, _, _, h4⟩ := h
  rw [h4]
  cases g with
  | zero => rw [Co.normW, List.append_nil]
  | succ g => rw [Co.normW, if_neg hs, List.append_nil]
theorem NormTo.few {s0 s : Co.Sp} {g : Nat} {done : List Nat} (h : NormTo s0 g s done) : done.length ≤ 33 := by
  obtain ⟨_, _, _, h4⟩ := h
  have := Co.norm_length 33 s0
  rw [h4, List.length_append] at this
  omega

set_option maxHeartbeats 4000000 in
set_option maxRecDepth 100000 in
theorem putLikely_any (bl bcv bpv bput b B bc bm ba mb n : Nat) (c : Co.Wr) (ds : List Nat) (x : Nat) (w : World) (h : LwAt bl bcv bpv bput b B bc bm ba mb n c ds w) (hx : x < 2) (hn : n ≤ 10000) (hd : ds.length ≤ 330000) (hp2 : c.fo.pl.2 < 2305843009213693952) (hop : c.open) :
    Calls Tryz.prog 148 #[.int .i64 (x : Int), .pointer (some ⟨bl, 0, none⟩), .pointer (some ⟨bcv, 0, none⟩), .pointer (some ⟨bpv, 0, none⟩), .pointer (some ⟨bput, 0, none⟩)] w fun e w' => e = .returned (.tuple #[]) ∧ LwAt bl bcv bpv bput b B bc bm ba mb (n + 1) (c.step x) (ds ++ c.out x) w' ∧ But B [b, bl, ba, mb] w w' := by
  have c0 := h.sp.c0
  have c1 := h.sp.c1
  have ccv : w.cell? ⟨bcv, 0, none⟩ = some (.func (.func 151) #[] #[.pointer (some ⟨bm, 0, none⟩), .pointer (some ⟨ba, 0, none⟩)]) := by rw [Lib.cell_of_heap h.cv]; rfl
  have H := hide h
  have CC := hide (fun W (hW : FoAt bc bm ba mb n c.fo W) => coming_any bc bm ba mb n c.fo W hW hp2)
  have hokp := h.fo.ok c.fo.pl
  have ho : c.fo.odds.1 + c.fo.odds.2 ≤ 1000000 := by
    have : c.fo.odds = c.fo.met c.fo.pl := rfl
    rw [this]
    omega
  have CL := hide (fun W => last_any c.sp c.fo.odds W (by have := hop.1; have := hop.2.1; omega) hop.2.2 hokp.1 hokp.2.1 ho)
  have hlz : Co.lastZ c.sp c.fo.odds < 4294967295 := by
    have h1 := Co.last_in (s := c.sp) (o := c.fo.odds) (by have := hop.1; have := hop.2.1; omega) hokp.2.1
    have := hop.2.2
    omega
  have hlt := h.sp.lt
  have hlt2 := heap_lt0 h.cv
  clear h
  go_enter Tryz.func148, Tryz.ntmps148
  go_wp2_with fail
  go_region_with ((first
    | (go_at_call 151; refine (CC.out _ ?_).mono ?_; (exact H.out.fo.keep (fun _ _ => rfl)); rintro e w1 ⟨rfl, hb1⟩; have k0 := (hb1.cell (p := ⟨bl, 0, none⟩) hlt).trans c0; have k1 := (hb1.cell (p := ⟨bl, 1, none⟩) hlt).trans c1; have k2 := (hb1.cell (p := ⟨bcv, 0, none⟩) hlt2).trans ccv)
    | (go_at_call 133; refine (CL.out _).mono ?_; rintro e w2 ⟨rfl, hb2⟩; have k3 := (hb2.cell (p := ⟨bl, 0, none⟩) (Nat.lt_of_lt_of_le hlt hb1.size)).trans k0; have k4 := (hb2.cell (p := ⟨bl, 1, none⟩) (Nat.lt_of_lt_of_le hlt hb1.size)).trans k1; have k5 := (hb2.cell (p := ⟨bcv, 0, none⟩) (Nat.lt_of_lt_of_le hlt2 hb1.size)).trans k2)
    | (go_at_call 134; refine (keep_any bl c.sp x (Co.lastZ c.sp c.fo.odds) _ hx hlz ?_).mono ?_; (exact (by unfold SpanAt; rw [hb2.block bl (Nat.lt_of_lt_of_le hlt hb1.size), hb1.block bl hlt]; exact H.out.sp)); rintro e w3 ⟨rfl, hs3, ho3⟩)))
  all_goals (
    have hF3 : Frm [bl] w w3 := frm_three (w := w) hb1 hb2 ho3
    have hL3 := H.out.span hF3 hs3
    clear hb1 hb2 hs3 ho3 c0 c1 ccv CC CL k0 k1 k2 k3 k4 k5
    have HL3 := hide hL3
    have cpv : w3.cell? ⟨bpv, 0, none⟩ = some (.func (.func 152) #[] #[.pointer (some ⟨bc, 0, none⟩), .pointer (some ⟨bm, 0, none⟩), .pointer (some ⟨ba, 0, none⟩)]) := (by rw [Lib.cell_of_heap hL3.pv]; rfl)
    have CP := hide (pass_any bc bm ba mb n c.fo x w3 hL3.fo hp2 (by omega) hx)
    clear hL3
    go_wp2_with (go_at_call 152; refine CP.out.mono ?_; rintro e w4 ⟨rfl, hfo4, hfr4⟩)
    have hL4 := HL3.out.pass hfr4 hfo4
    have hb4 : But B [b, bl, ba, mb] w w4 := (But.mono (X' := [b, bl, ba, mb]) hF3 H.out.le (fun k hk => by simp at hk; simp [hk])).trans (But.mono (X' := [b, bl, ba, mb]) hfr4 HL3.out.le (fun k hk => by simp at hk; rcases hk with rfl | rfl <;> simp))
    have HN := hide (NormTo.start (Co.cut_in hop H.out.fo.ok x).1 (Co.cut_in hop H.out.fo.ok x).2)
    clear CP hfr4 hfo4 HL3 hF3 cpv
    go_loopg [] 33 (fun g wr => ∃ (s : Co.Sp) (done : List Nat), LwAt bl bcv bpv bput b B bc bm ba mb (n + 1) ⟨s, c.fo.pass x⟩ (ds ++ done) wr ∧ But B [b, bl, ba, mb] w wr ∧ Hid (NormTo (c.cut x) g s done))
    case atStart => exact ⟨_, [], (by rw [List.append_nil]; exact hL4), hb4, HN⟩
    case round =>
      clear hL4 hb4 HN
      obtain ⟨s, done, hL, hbx, HN⟩ := hrel
      have hle : s.1 ≤ s.2 := HN.out.1
      have hlt32 : s.2 < 4294967296 := HN.out.2.1
      have hfew := HN.out.few
      have d0 : wr.cell? ⟨bl, 0, none⟩ = some (.int .u32 (s.1 : Int)) := hL.sp.c0
      have d1 : wr.cell? ⟨bl, 1, none⟩ = some (.int .u32 (s.2 : Int)) := hL.sp.c1
      have CS := hide (settled_any s wr (by omega) hlt32)
      unfold spanV at CS
      by_cases hset : Co.settled s = true
      · obtain ⟨g1, rfl⟩ := HN.out.pos hset
        rw [hset] at CS
        have HL := hide hL
        clear hL
        go_wp2_with (go_at_call 135; refine CS.out.mono ?_; rintro e w5 ⟨rfl, hb5⟩)
        have hs5 : SpanAt w5 bl s := (by unfold SpanAt; rw [hb5.block bl HL.out.sp.lt]; exact HL.out.sp)
        have hL5 := HL.out.span (below_frm hb5 [bl]) hs5
        have hb5' : But B [b, bl, ba, mb] w w5 := hbx.trans (below_but (hb5.mono HL.out.le) _)
        have e0 := hs5.c0
        have eput : w5.cell? ⟨bput, 0, none⟩ = some (.func (.func 68) #[] #[.pointer (some ⟨b, 0, none⟩)]) := (by rw [Lib.cell_of_heap hL5.put]; rfl)
        have htop : Co.top s.1 < 2 := (by unfold Co.top; omega)
        have HL5 := hide hL5
        clear hL5 hs5 CS d0 d1 HL hbx
        go_region_held3 (fun w' => w'.cell? ⟨bl, 0, none⟩ = some (.int .u32 (s.1 : Int)) ∧ w'.cell? ⟨bput, 0, none⟩ = some (.func (.func 68) #[] #[.pointer (some ⟨b, 0, none⟩)])) (go_keep) (first
          | (go_at_call 149; refine (top_any s.1 _ (by omega)).mono ?_; rintro e w' ⟨rfl, rfl⟩)
          | (go_at_call 68; refine (putFine_any b B (Co.top s.1) (ds ++ done) _ htop ?_ (by simp; omega) ?_).mono ?_; (exact HL5.out.bld.keep (fun _ _ _ => rfl)); (exact HL5.out.le); rintro e w6 ⟨rfl, hbl6, hbt6⟩; have g0 := (World.cell?_of_block (a := ⟨bl, 0, none⟩) (hbt6.block bl HL5.out.lt.1 (by simp; exact HL5.out.apart.2.1.1))).trans e0; have g1 := (World.cell?_of_block (a := ⟨bput, 0, none⟩) (hbt6.block bput HL5.out.lt.2.2.2.1 (by simp; exact HL5.out.apart.2.1.2.2.2.1))).trans eput))
        have hbt : But B [b] w5 w6 := ⟨hbt6.os, hbt6.tape, hbt6.output, hbt6.size, hbt6.block⟩
        have hL6 : LwAt bl bcv bpv bput b B bc bm ba mb (n + 1) ⟨s, c.fo.pass x⟩ (ds ++ done ++ [Co.top s.1]) w6 := HL5.out.put' hbt hbl6
        have hb6 : But B [b, bl, ba, mb] w w6 := hb5'.trans (But.mono (X' := [b, bl, ba, mb]) hbt (Nat.le_refl _) (fun k hk => by simp at hk; simp [hk]))
        have CD := hide (drop_any bl s w6 hL6.sp)
        have HL6 := hide hL6
        clear hL6 hbt hbt6 hbl6 g0 g1 e0 eput HL5 hb5'
        go_wp2_with (go_at_call 136; refine CD.out.mono ?_; rintro e w7 ⟨rfl, hs7, ho7⟩)
        go_roundg g1
        case measure => omega
        case rel => exact ⟨Co.dropT s, done ++ [Co.top s.1], (by have := HL6.out.span ho7.frm hs7; rw [List.append_assoc] at this; exact this), hb6.trans (But.mono (X' := [b, bl, ba, mb]) ho7.frm HL6.out.le (fun k hk => by simp at hk; simp [hk])), HN.out.next hset⟩
      · have hset' : Co.settled s = false := (by simpa using hset)
        rw [hset'] at CS
        have hfin := HN.out.fin hset
        have HL := hide hL
        have HF := hide hfin
        clear hL hfin
        go_wp2_with (go_at_call 135; refine CS.out.mono ?_; rintro e w5 ⟨rfl, hb5⟩)
        go_end0
        have hs5 : SpanAt w5 bl s := (by unfold SpanAt; rw [hb5.block bl HL.out.sp.lt]; exact HL.out.sp)
        have hL5 := HL.out.span (below_frm hb5 [bl]) hs5
        refine ⟨rfl, ?_, hbx.trans (below_but (hb5.mono HL.out.le) _)⟩
        have e1 : c.out x = done := (by unfold Co.Wr.out; rw [HF.out])
        have e2 : c.step x = ⟨s, c.fo.pass x⟩ := (by unfold Co.Wr.step; rw [HF.out])
        rw [e1, e2]
        exact hL5)
end Go.Proofs.YtkiindkoiomieaaGreatDoor
end

