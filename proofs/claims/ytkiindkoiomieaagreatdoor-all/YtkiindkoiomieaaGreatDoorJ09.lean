import Derived.Test.YtkiindkoiomieaaGreatDoorJ08
import Derived.Deep.LoopGhost
import Derived.Test.YtkiindkoiomieaaGreatDoorJ06
section
/-
  P6: bits read: plain functions, and the walks of the reader's closures.
-/
namespace Go.Proofs.YtkiindkoiomieaaGreatDoor
open Go.RowKit

/-- How many letters 0 stand first. -/
def zerosOf : List UInt8 → Nat
  | [] => 0
  | c :: r => if c = 48 then zerosOf r + 1 else 0

/-- So many binary digits read behind acc. -/
def readBits : Nat → Nat → List UInt8 → Option (Nat × List UInt8)
  | 0, acc, l => some (acc, l)
  | _ + 1, _, [] => none
  | k + 1, acc, c :: r => if c = 48 then readBits k (2 * acc) r else if c = 49 then readBits k (2 * acc + 1) r else none

/-- The digits behind the first one. -/
def readTail (z : Nat) : List UInt8 → Option (Nat × List UInt8)
  | [] => none
  | c :: r => if c = 49 then readBits z 1 r else none

/-- A number that may be. -/
def fits : Option (Nat × List UInt8) → Option (Nat × List UInt8)
  | none => none
  | some (n, r) => if n ≤ 1073741824 then some (n, r) else none

/-- One number read. -/
def readOne (l : List UInt8) : Option (Nat × List UInt8) := if 30 < zerosOf l then none else fits (readTail (zerosOf l) (l.drop (zerosOf l)))

theorem zeros_step {l r : List UInt8} (h : l = 48 :: r) : zerosOf l = zerosOf r + 1 := by subst h; rfl

/-- What the reader's variables hold: the text, the function that tells the end, the place. -/
structure Rd (bt be bp : Nat) (s : ByteArray) (p : Nat) (w : World) : Prop where
  hT : w.heap[bt]? = some (.cells #[.string s] 9 (0, 0))
  hE : w.heap[be]? = some (.cells #[.func (.func 70) #[] #[.pointer (some ⟨bp, 0, none⟩), .pointer (some ⟨bt, 0, none⟩)]] 32 (0, 0))
  hP : w.heap[bp]? = some (.cells #[.int .i64 (p : Int)] 3 (0, 0))

theorem Rd.cT {bt be bp : Nat} {s : ByteArray} {p : Nat} {w : World} (h : Rd bt be bp s p w) : w.cell? ⟨bt, 0, none⟩ = some (.string s) := by rw [Lib.cell_of_heap h.hT]; rfl
theorem Rd.cE {bt be bp : Nat} {s : ByteArray} {p : Nat} {w : World} (h : Rd bt be bp s p w) : w.cell? ⟨be, 0, none⟩ = some (.func (.func 70) #[] #[.pointer (some ⟨bp, 0, none⟩), .pointer (some ⟨bt, 0, none⟩)]) := by rw [Lib.cell_of_heap h.hE]; rfl
theorem Rd.cP {bt be bp : Nat} {s : ByteArray} {p : Nat} {w : World} (h : Rd bt be bp s p w) : w.cell? ⟨bp, 0, none⟩ = some (.int .i64 (p : Int)) := by rw [Lib.cell_of_heap h.hP]; rfl
theorem Rd.fP {bt be bp : Nat} {s : ByteArray} {p : Nat} {w : World} (h : Rd bt be bp s p w) : w.frozen? ⟨bp, 0, none⟩ = false := Lib.frozen_of_heap h.hP 0
theorem Rd.ne1 {bt be bp : Nat} {s : ByteArray} {p : Nat} {w : World} (h : Rd bt be bp s p w) : bt ≠ bp := fun e => by
  have h1 := h.hT
  rw [e, h.hP] at h1
  simp at h1
theorem Rd.ne2 {bt be bp : Nat} {s : ByteArray} {p : Nat} {w : World} (h : Rd bt be bp s p w) : be ≠ bp := fun e => by
  have h1 := h.hE
  rw [e, h.hP] at h1
  simp at h1

theorem Rd.move {bt be bp : Nat} {s : ByteArray} {p : Nat} {w : World} (h : Rd bt be bp s p w) (q : Nat) : Rd bt be bp s q (w.setCell ⟨bp, 0, none⟩ (.int .i64 (q : Int))) := by
  refine ⟨?_, ?_, ?_⟩
  · rw [heap_setCell_other _ _ _ _ (by exact h.ne1)]
    exact h.hT
  · rw [heap_setCell_other _ _ _ _ (by exact h.ne2)]
    exact h.hE
  · rw [heap_setCell_same _ _ _ _ _ _ h.hP]
    rfl

/-- Nothing has turned but the place. -/
def OnlyAt (bp : Nat) (w w' : World) : Prop := w.grownBy w' (some bp) ∧ w'.heap.size = w.heap.size

theorem OnlyAt.refl (bp : Nat) (w : World) : OnlyAt bp w w := ⟨⟨rfl, rfl, rfl, Nat.le_refl _, fun _ _ _ => rfl⟩, rfl⟩
theorem OnlyAt.trans {bp : Nat} {a b c : World} (h : OnlyAt bp a b) (k : OnlyAt bp b c) : OnlyAt bp a c :=
  ⟨⟨k.1.os.trans h.1.os, k.1.tape.trans h.1.tape, k.1.output.trans h.1.output, Nat.le_trans h.1.size k.1.size, fun j hj hne => (k.1.block j (by rw [h.2]; exact hj) hne).trans (h.1.block j hj hne)⟩, k.2.trans h.2⟩
theorem OnlyAt.set (bp : Nat) (w : World) (v : Value) : OnlyAt bp w (w.setCell ⟨bp, 0, none⟩ v) :=
  ⟨⟨rfl, rfl, rfl, by simp, fun k hk hne => heap_setCell_other _ _ _ _ (fun e => hne (by rw [e]))⟩, by simp⟩

set_option maxHeartbeats 400000 in
set_option maxRecDepth 100000 in
theorem ended_any (bt be bp : Nat) (s : ByteArray) (p : Nat) (w : World) (h : Rd bt be bp s p w) :
    Calls Tryz.prog 70 #[.pointer (some ⟨bp, 0, none⟩), .pointer (some ⟨bt, 0, none⟩)] w fun e w' => e = .returned (.bool ((p : Int) == (s.size : Int))) ∧ w' = w := by
  have c1 := h.cT
  have c2 := h.cP
  clear h
  go_enter Tryz.func70, Tryz.ntmps70
  go_wp2
  go_ret
  exact ⟨rfl, rfl⟩

set_option maxHeartbeats 1000000 in
set_option maxRecDepth 100000 in
theorem next_bit (bt be bp : Nat) (s : ByteArray) (p x : Nat) (w : World) (h : Rd bt be bp s p w) (hs : s.size ≤ 6100) (hp : p < s.size) (hx : x < 2) (hc : s[p].toNat = 48 + x) :
    Calls Tryz.prog 71 #[.pointer (some ⟨be, 0, none⟩), .pointer (some ⟨bt, 0, none⟩), .pointer (some ⟨bp, 0, none⟩)] w fun e w' => e = .returned (.tuple #[.int .i64 x, .bool true]) ∧ w' = w.setCell ⟨bp, 0, none⟩ (.int .i64 ((p + 1 : Nat) : Int)) := by
  have c1 := h.cT
  have c2 := h.cP
  have c3 := h.cE
  have f2 := h.fP
  have hend : ((p : Int) == (s.size : Int)) = false := by rw [beq_eq_false_iff_ne]; omega
  have cE := ended_any bt be bp s p w h
  rw [hend] at cE
  have CE := hide cE
  clear h cE
  have hcI : (s[p].toNat : Int) = 48 + (x : Int) := by omega
  have HC := hide hcI
  clear hcI
  rcases (show x = 0 ∨ x = 1 by omega) with rfl | rfl
  · have t0 : ((s[p].toNat : Int) != 48) = false := by rw [HC.out]; rfl
    have t1 : IntKind.u8.wrap ((s[p].toNat : Int) - 48) = 0 := by rw [HC.out]; rfl
    go_enter Tryz.func71, Tryz.ntmps71
    go_wp2_with (go_at_call 70; refine (unhide CE).mono ?_; rintro e w' ⟨rfl, rfl⟩)
    go_ret2
    exact ⟨rfl, by rw [Int.natCast_add]; rfl⟩
  · have t0 : ((s[p].toNat : Int) != 48) = true := by rw [HC.out]; rfl
    have t2 : ((s[p].toNat : Int) != 49) = false := by rw [HC.out]; rfl
    have t1 : IntKind.u8.wrap ((s[p].toNat : Int) - 48) = 1 := by rw [HC.out]; rfl
    go_enter Tryz.func71, Tryz.ntmps71
    go_wp2_with (go_at_call 70; refine (unhide CE).mono ?_; rintro e w' ⟨rfl, rfl⟩)
    go_ret2
    exact ⟨rfl, by rw [Int.natCast_add]; rfl⟩

set_option maxHeartbeats 1000000 in
set_option maxRecDepth 100000 in
theorem next_no (bt be bp : Nat) (s : ByteArray) (p : Nat) (w : World) (h : Rd bt be bp s p w) (hp : p ≤ s.size) (hc : ∀ hp' : p < s.size, s[p].toNat ≠ 48 ∧ s[p].toNat ≠ 49) :
    Calls Tryz.prog 71 #[.pointer (some ⟨be, 0, none⟩), .pointer (some ⟨bt, 0, none⟩), .pointer (some ⟨bp, 0, none⟩)] w fun e w' => e = .returned (.tuple #[.int .i64 0, .bool false]) ∧ w' = w := by
  have c1 := h.cT
  have c2 := h.cP
  have c3 := h.cE
  have cE := ended_any bt be bp s p w h
  clear h
  by_cases hlt : p < s.size
  · have hend : ((p : Int) == (s.size : Int)) = false := by rw [beq_eq_false_iff_ne]; omega
    rw [hend] at cE
    have CE := hide cE
    have hn := hc hlt
    have t0 : ((s[p].toNat : Int) != 48) = true := by rw [bne_iff_ne]; omega
    have t2 : ((s[p].toNat : Int) != 49) = true := by rw [bne_iff_ne]; omega
    clear cE hc hn
    go_enter Tryz.func71, Tryz.ntmps71
    go_wp2_with (go_at_call 70; refine (unhide CE).mono ?_; rintro e w' ⟨rfl, rfl⟩)
    go_ret2
    exact ⟨rfl, rfl⟩
  · have hend : ((p : Int) == (s.size : Int)) = true := by rw [beq_iff_eq]; omega
    rw [hend] at cE
    have CE := hide cE
    clear cE hc
    go_enter Tryz.func71, Tryz.ntmps71
    go_wp2_with (go_at_call 70; refine (unhide CE).mono ?_; rintro e w' ⟨rfl, rfl⟩)
    go_ret2
    exact ⟨rfl, rfl⟩

/-- The letters from a place on. -/
def rest (s : ByteArray) (p : Nat) : List UInt8 := s.data.toList.drop p

theorem rest_cons {s : ByteArray} {p : Nat} (h : p < s.size) : rest s p = s[p] :: rest s (p + 1) := drop_byte s p h
theorem rest_end {s : ByteArray} {p : Nat} (h : ¬ p < s.size) : rest s p = [] := drop_end s p h
theorem rest_drop (s : ByteArray) (p j : Nat) : (rest s p).drop j = rest s (p + j) := by simp [rest]

theorem byte_is {c : UInt8} {n : Nat} (h : c.toNat = n) : c = UInt8.ofNat n := by rw [← h]; simp

theorem zeros_end {s : ByteArray} {p : Nat} (h : ∀ hp : p < s.size, s[p].toNat ≠ 48) : zerosOf (rest s p) = 0 := by
  by_cases hp : p < s.size
  · rw [rest_cons hp, zerosOf, if_neg (fun e => h hp (by rw [e]; rfl))]
  · rw [rest_end hp]
    rfl

theorem zeros_go {s : ByteArray} {p : Nat} (hp : p < s.size) (h : s[p].toNat = 48) : zerosOf (rest s p) = zerosOf (rest s (p + 1)) + 1 :=
  zeros_step (by rw [rest_cons hp, byte_is h]; rfl)

theorem no_number {s : ByteArray} {p z : Nat} (hz : zerosOf (rest s p) = z) (h : ∀ hp : p + z < s.size, s[p + z].toNat ≠ 49) : readOne (rest s p) = none := by
  unfold readOne
  rw [hz, rest_drop]
  by_cases h30 : 30 < z
  · rw [if_pos h30]
  · rw [if_neg h30]
    by_cases hp : p + z < s.size
    · rw [rest_cons hp, readTail, if_neg (fun e => h hp (by rw [e]; rfl))]
      rfl
    · rw [rest_end hp]
      rfl

theorem a_number {s : ByteArray} {p z : Nat} (hz : zerosOf (rest s p) = z) (h30 : z ≤ 30) (hp : p + z < s.size) (h : s[p + z].toNat = 49) : readOne (rest s p) = fits (readBits z 1 (rest s (p + z + 1))) := by
  unfold readOne
  rw [hz, rest_drop, if_neg (by omega), rest_cons hp, byte_is h, readTail, if_pos (show UInt8.ofNat 49 = 49 from rfl)]

set_option maxHeartbeats 1000000 in
set_option maxRecDepth 100000 in
theorem zeros_any (bt be bp : Nat) (s : ByteArray) (p : Nat) (w : World) (h : Rd bt be bp s p w) (hs : s.size ≤ 6100) (hp : p ≤ s.size) :
    Calls Tryz.prog 72 #[.func (.func 71) #[] #[.pointer (some ⟨be, 0, none⟩), .pointer (some ⟨bt, 0, none⟩), .pointer (some ⟨bp, 0, none⟩)]] w fun e w' => ∃ (z : Nat) (ok : Bool) (p' : Nat), e = .returned (.tuple #[.int .i64 z, .bool ok]) ∧ Rd bt be bp s p' w' ∧ OnlyAt bp w w' ∧ p' ≤ s.size ∧
      ((ok = true ∧ z ≤ 30 ∧ p' = p + z + 1 ∧ readOne (rest s p) = fits (readBits z 1 (rest s p'))) ∨ (ok = false ∧ readOne (rest s p) = none)) := by
  go_enter Tryz.func72, Tryz.ntmps72
  go_wp2
  go_loopw [2] (fun i wr => ∃ j : Nat, j ≤ 31 ∧ i = .int .i64 j ∧ p + j ≤ s.size ∧ Rd bt be bp s (p + j) wr ∧ OnlyAt bp w wr ∧ Hid (zerosOf (rest s p) = j + zerosOf (rest s (p + j)))) (fun i _ => 31 - (intOf i).toNat)
  case atStart => exact ⟨0, by omega, rfl, hp, h, OnlyAt.refl _ _, by show _ = _; rw [Nat.add_zero, Nat.zero_add]⟩
  case round =>
    clear h
    obtain ⟨j, hj, rfl, hpj, hR, hO, HZ⟩ := hrel
    by_cases h31 : j < 31
    · by_cases hlt : p + j < s.size
      · by_cases c48 : s[p + j].toNat = 48
        · have cN := hide (next_bit bt be bp s (p + j) 0 wr hR hs hlt (by omega) c48)
          have HR := hide hR
          have hz := zeros_go hlt c48
          have HZ2 := hide hz
          clear hR hz c48
          go_wp2_with (go_at_call 71; refine (unhide cN).mono ?_; rintro e w' ⟨rfl, rfl⟩)
          go_roundw
          case rel => exact ⟨j + 1, by omega, by go_num, by omega, by have := HR.out.move (p + j + 1); rw [← Nat.add_assoc]; exact this, hO.trans (OnlyAt.set _ _ _), by show _ = _; rw [HZ.out, HZ2.out, ← Nat.add_assoc p j 1]; omega⟩
          case measure => simp [intOf]; omega
        · by_cases c49 : s[p + j].toNat = 49
          · have cN := hide (next_bit bt be bp s (p + j) 1 wr hR hs hlt (by omega) c49)
            have HR := hide hR
            have hz : zerosOf (rest s p) = j := by rw [HZ.out, zeros_end (fun _ => c48)]; rfl
            have HN := hide (a_number hz (by omega) hlt c49)
            clear hR hz c48 c49
            go_wp2_with (go_at_call 71; refine (unhide cN).mono ?_; rintro e w' ⟨rfl, rfl⟩)
            go_ret2
            exact ⟨j, true, p + j + 1, rfl, HR.out.move _, hO.trans (OnlyAt.set _ _ _), by omega, .inl ⟨rfl, by omega, rfl, HN.out⟩⟩
          · have cN := hide (next_no bt be bp s (p + j) wr hR hpj (fun _ => ⟨c48, c49⟩))
            have HR := hide hR
            have hz : zerosOf (rest s p) = j := by rw [HZ.out, zeros_end (fun _ => c48)]; rfl
            have HN := hide (no_number hz (fun _ => c49))
            clear hR hz c48 c49
            go_wp2_with (go_at_call 71; refine (unhide cN).mono ?_; rintro e w' ⟨rfl, rfl⟩)
            go_ret2
            exact ⟨j, false, p + j, rfl, HR.out, hO, by omega, .inr ⟨rfl, HN.out⟩⟩
      · have cN := hide (next_no bt be bp s (p + j) wr hR hpj (fun h => absurd h hlt))
        have HR := hide hR
        have hz : zerosOf (rest s p) = j := by rw [HZ.out, zeros_end (fun h => absurd h hlt)]; rfl
        have HN := hide (no_number hz (fun h => absurd h hlt))
        clear hR hz
        go_wp2_with (go_at_call 71; refine (unhide cN).mono ?_; rintro e w' ⟨rfl, rfl⟩)
        go_ret2
        exact ⟨j, false, p + j, rfl, HR.out, hO, by omega, .inr ⟨rfl, HN.out⟩⟩
    · have HN : Hid (readOne (rest s p) = none) := by
        show _ = _
        unfold readOne
        rw [if_pos (by have := HZ.out; omega)]
      go_wp2
      go_ret2
      exact ⟨0, false, p + j, rfl, hR, hO, by omega, .inr ⟨rfl, HN.out⟩⟩
end Go.Proofs.YtkiindkoiomieaaGreatDoor
end

section
/-
  P6: the walks of nextNumber, bitReader and Ungamma.
-/
namespace Go.Proofs.YtkiindkoiomieaaGreatDoor
open Go.RowKit

theorem bits_go {s : ByteArray} {p k acc x : Nat} (hp : p < s.size) (hx : x < 2) (h : s[p].toNat = 48 + x) : readBits (k + 1) acc (rest s p) = readBits k (2 * acc + x) (rest s (p + 1)) := by
  rw [rest_cons hp, byte_is h]
  rcases (show x = 0 ∨ x = 1 by omega) with rfl | rfl <;> rfl

theorem bits_no {s : ByteArray} {p k acc : Nat} (h : ∀ hp : p < s.size, s[p].toNat ≠ 48 ∧ s[p].toNat ≠ 49) : readBits (k + 1) acc (rest s p) = none := by
  by_cases hp : p < s.size
  · rw [rest_cons hp, readBits, if_neg (fun e => (h hp).1 (by rw [e]; rfl)), if_neg (fun e => (h hp).2 (by rw [e]; rfl))]
  · rw [rest_end hp, readBits]

theorem ret_ib {n : Int} {b b' : Bool} (h : b = b') : Ending.returned (.tuple #[.int .i64 n, .bool b]) = .returned (.tuple #[.int .i64 n, .bool b']) := by rw [h]

set_option maxHeartbeats 1000000 in
set_option maxRecDepth 100000 in
theorem number_any (bt be bp : Nat) (s : ByteArray) (p : Nat) (w : World) (h : Rd bt be bp s p w) (hs : s.size ≤ 6100) (hp : p ≤ s.size) :
    Calls Tryz.prog 40 #[.func (.func 71) #[] #[.pointer (some ⟨be, 0, none⟩), .pointer (some ⟨bt, 0, none⟩), .pointer (some ⟨bp, 0, none⟩)]] w fun e w' => ∃ (n : Nat) (ok : Bool) (p' : Nat), e = .returned (.tuple #[.int .i64 n, .bool ok]) ∧ Rd bt be bp s p' w' ∧ OnlyAt bp w w' ∧ p' ≤ s.size ∧
      ((ok = true ∧ p < p' ∧ readOne (rest s p) = some (n, rest s p')) ∨ (ok = false ∧ readOne (rest s p) = none)) := by
  have cZ := hide (zeros_any bt be bp s p w h hs hp)
  clear h
  go_enter Tryz.func40, Tryz.ntmps40
  go_wp2_with fail
  refine (unhide cZ).mono ?_
  rintro e w1 ⟨z, ok, p1, rfl, hR1, hO1, hp1, ⟨rfl, hz30, hpz, hread⟩ | ⟨rfl, hnone⟩⟩
  · have HR := hide hread
    clear hread
    have HPZ := hide hpz
    clear hpz
    go_wp2
    go_loopw [2, 15] (fun nv i wr => ∃ j acc : Nat, j ≤ z ∧ i = .int .i64 j ∧ nv = .int .i64 acc ∧ acc ≤ 2147483647 ∧ Hid (acc < 2 ^ (j + 1)) ∧ p1 + j ≤ s.size ∧ Rd bt be bp s (p1 + j) wr ∧ OnlyAt bp w wr ∧ Hid (readBits z 1 (rest s p1) = readBits (z - j) acc (rest s (p1 + j)))) (fun _ i _ => z - (intOf i).toNat)
    case atStart => exact ⟨0, 1, Nat.zero_le _, rfl, rfl, by omega, by show _ < _; decide, hp1, hR1, hO1, rfl⟩
    case round =>
      clear hR1 hO1
      obtain ⟨j, acc, hj, rfl, rfl, hacc, HA, hpj, hR, hO, HB⟩ := hrel
      by_cases hjz : j < z
      · have key : ∀ x, x < 2 → 2 * acc + x < 2 ^ (j + 1 + 1) ∧ 2 * acc + x ≤ 2147483647 := fun x hx => by
          have h1 := HA.out
          have h2 : (2 : Nat) ^ (j + 1 + 1) ≤ 2 ^ 31 := Nat.pow_le_pow_right (by omega) (by omega)
          have h3 : (2 : Nat) ^ 31 = 2147483648 := by decide
          have h4 : (2 : Nat) ^ (j + 1 + 1) = 2 * 2 ^ (j + 1) := by rw [Nat.pow_succ, Nat.mul_comm]
          omega
        have HK := hide key
        clear key
        by_cases hbit : ∃ hlt : p1 + j < s.size, ∃ x, x < 2 ∧ s[p1 + j].toNat = 48 + x
        · obtain ⟨hlt, x, hx, hc⟩ := hbit
          have cN := hide (next_bit bt be bp s (p1 + j) x wr hR hs hlt hx hc)
          have HR2 := hide hR
          have hrb := bits_go (k := z - j - 1) (acc := acc) hlt hx hc
          have HB2 := hide hrb
          clear hR hrb hc
          go_wp2_with (go_at_call 71; refine (unhide cN).mono ?_; rintro e w' ⟨rfl, rfl⟩)
          go_roundw
          case rel =>
            refine ⟨j + 1, 2 * acc + x, by omega, by go_num, by go_num, (HK.out x hx).2, (HK.out x hx).1, by omega, ?_, hO.trans (OnlyAt.set _ _ _), ?_⟩
            · have := HR2.out.move (p1 + j + 1)
              rw [← Nat.add_assoc]
              exact this
            · show _ = _
              rw [HB.out, show z - j = z - j - 1 + 1 by omega, HB2.out, show z - (j + 1) = z - j - 1 by omega, ← Nat.add_assoc]
          case measure => simp [intOf]; omega
        · have hno : ∀ hlt : p1 + j < s.size, s[p1 + j].toNat ≠ 48 ∧ s[p1 + j].toNat ≠ 49 := fun hlt =>
            ⟨fun e => hbit ⟨hlt, 0, by omega, e⟩, fun e => hbit ⟨hlt, 1, by omega, e⟩⟩
          have cN := hide (next_no bt be bp s (p1 + j) wr hR hpj hno)
          have HR2 := hide hR
          have hnone : readOne (rest s p) = none := by
            rw [HR.out, HB.out, show z - j = z - j - 1 + 1 by omega, bits_no hno]
            rfl
          have HN := hide hnone
          clear hR hnone hno hbit
          go_wp2_with (go_at_call 71; refine (unhide cN).mono ?_; rintro e w' ⟨rfl, rfl⟩)
          go_ret2
          exact ⟨0, false, p1 + j, rfl, HR2.out, hO, hpj, .inr ⟨rfl, HN.out⟩⟩
      · have hje : z - j = 0 := by omega
        have hfin : readOne (rest s p) = fits (some (acc, rest s (p1 + j))) := by
          rw [HR.out, HB.out, hje]
          rfl
        have HN := hide hfin
        clear hje hfin
        by_cases hmax : acc ≤ 1073741824
        · go_wp2
          go_ret2
          refine ⟨acc, true, p1 + j, ret_ib (decide_eq_true (by omega)), hR, hO, hpj, .inl ⟨rfl, by have := HPZ.out; omega, ?_⟩⟩
          rw [HN.out, fits, if_pos hmax]
        · go_wp2
          go_ret2
          refine ⟨acc, false, p1 + j, ret_ib (decide_eq_false (by omega)), hR, hO, hpj, .inr ⟨rfl, ?_⟩⟩
          rw [HN.out, fits, if_neg hmax]
  · have HN := hide hnone
    clear hnone
    go_wp2
    go_ret2
    exact ⟨0, false, p1, rfl, hR1, hO1, hp1, .inr ⟨rfl, HN.out⟩⟩

theorem rd_new (w : World) (s : ByteArray) : Rd w.heap.size (w.heap.size + 1) (w.heap.size + 1 + 1) s 0 (((w.alloc (.cells #[.string s] 9)).alloc
    (.cells #[.func (.func 70) #[] #[.pointer (some ⟨w.heap.size + 1 + 1, 0, none⟩), .pointer (some ⟨w.heap.size, 0, none⟩)]] 32)).alloc (.cells #[.int .i64 0] 3)) := by
  refine ⟨?_, ?_, ?_⟩
  · rw [Lib.alloc_old _ _ _ (by simp; omega)]
    exact heap_alloc2_old _ _ _
  · rw [Lib.alloc_old _ _ _ (by simp)]
    exact heap_alloc2_new _ _ _
  · have h := heap_alloc_new ((w.alloc (.cells #[.string s] 9)).alloc (.cells #[.func (.func 70) #[] #[.pointer (some ⟨w.heap.size + 1 + 1, 0, none⟩), .pointer (some ⟨w.heap.size, 0, none⟩)]] 32)) (.cells #[.int .i64 0] 3)
    have e : ((w.alloc (.cells #[.string s] 9)).alloc (.cells #[.func (.func 70) #[] #[.pointer (some ⟨w.heap.size + 1 + 1, 0, none⟩), .pointer (some ⟨w.heap.size, 0, none⟩)]] 32)).heap.size = w.heap.size + 1 + 1 := by simp
    rw [e] at h
    exact h

set_option maxHeartbeats 1000000 in
set_option maxRecDepth 100000 in
theorem reader_any (s : ByteArray) (w : World) :
    Calls Tryz.prog 39 #[.string s] w fun e w' => e = .returned (.tuple #[.func (.func 71) #[] #[.pointer (some ⟨w.heap.size + 1, 0, none⟩), .pointer (some ⟨w.heap.size, 0, none⟩), .pointer (some ⟨w.heap.size + 1 + 1, 0, none⟩)],
      .func (.func 70) #[] #[.pointer (some ⟨w.heap.size + 1 + 1, 0, none⟩), .pointer (some ⟨w.heap.size, 0, none⟩)]]) ∧ Rd w.heap.size (w.heap.size + 1) (w.heap.size + 1 + 1) s 0 w' ∧ Below w.heap.size w w' ∧ w'.heap.size = w.heap.size + 3 := by
  have hsf : ∀ (W : World) (x : Addr) (fs : Array Value), (store x (.func (.func 70) #[] fs)).run Tryz.prog W = stored Tryz.prog W x (.func (.func 70) #[] fs) .plain := fun W x fs => run_store _ _ _ _ _ rfl
  go_enter Tryz.func39, Tryz.ntmps39
  go_wp2
  go_region
  go_wp2
  have hR := rd_new w s
  refine bodyPost_ret (v := .tuple #[.func (.func 71) #[] #[.pointer (some ⟨w.heap.size + 1, 0, none⟩), .pointer (some ⟨w.heap.size, 0, none⟩), .pointer (some ⟨w.heap.size + 1 + 1, 0, none⟩)],
      .func (.func 70) #[] #[.pointer (some ⟨w.heap.size + 1 + 1, 0, none⟩), .pointer (some ⟨w.heap.size, 0, none⟩)]]) (by simp [results, Tryz.results39, go_sem]) rfl ⟨rfl, ⟨hR.hT, hR.hE, hR.hP⟩, ?_, by simp⟩
  exact ((((Below.refl _ w).alloc (Nat.le_refl _) _).alloc (by simp) _).alloc (by simp; omega) _).drew

/-- All numbers read, at most 100. -/
def unL : Nat → List UInt8 → List Int → Option (List Int)
  | 0, _, _ => none
  | f + 1, l, acc => if l = [] then some acc else match readOne l with
    | none => none
    | some (n, r) => if acc.length = 100 then none else unL f r (acc ++ [(n : Int)])

/-- What is read of a text. -/
def uR (s : ByteArray) : Option (List Int) := unL (s.size + 1) s.data.toList []
/-- Which error. -/
def uE (s : ByteArray) : Int := if 6100 < s.size then 1 else match uR s with
  | none => 3
  | some _ => 0
/-- Which numbers. -/
def uV (s : ByteArray) : List Int := if 6100 < s.size then [] else match uR s with
  | none => []
  | some l => l

theorem u_none {s : ByteArray} (hs : s.size ≤ 6100) (h : uR s = none) : uE s = 3 ∧ uV s = [] := by
  unfold uE uV
  rw [if_neg (by omega), h, if_neg (by omega)]
  exact ⟨rfl, rfl⟩
theorem u_some {s : ByteArray} {l : List Int} (hs : s.size ≤ 6100) (h : uR s = some l) : uE s = 0 ∧ uV s = l := by
  unfold uE uV
  rw [if_neg (by omega), h, if_neg (by omega)]
  exact ⟨rfl, rfl⟩
theorem u_long {s : ByteArray} (hs : 6100 < s.size) : uE s = 1 ∧ uV s = [] := by
  unfold uE uV
  rw [if_pos hs, if_pos hs]
  exact ⟨rfl, rfl⟩

theorem un_end {s : ByteArray} {p f : Nat} {acc : List Int} (h : ¬ p < s.size) : unL (f + 1) (rest s p) acc = some acc := by
  rw [rest_end h, unL, if_pos rfl]
theorem un_none {s : ByteArray} {p f : Nat} {acc : List Int} (h : p < s.size) (hr : readOne (rest s p) = none) : unL (f + 1) (rest s p) acc = none := by
  rw [unL, if_neg (by rw [rest_cons h]; simp), hr]
theorem un_full {s : ByteArray} {p f n : Nat} {acc : List Int} {r : List UInt8} (h : p < s.size) (hr : readOne (rest s p) = some (n, r)) (ha : acc.length = 100) : unL (f + 1) (rest s p) acc = none := by
  rw [unL, if_neg (by rw [rest_cons h]; simp), hr]
  exact if_pos ha
theorem un_go {s : ByteArray} {p f n : Nat} {acc : List Int} {r : List UInt8} (h : p < s.size) (hr : readOne (rest s p) = some (n, r)) (ha : acc.length ≠ 100) : unL (f + 1) (rest s p) acc = unL f r (acc ++ [(n : Int)]) := by
  rw [unL, if_neg (by rw [rest_cons h]; simp), hr]
  exact if_neg ha

theorem owns_base {w : World} {base base' : Nat} {e : TypeId} {size : Nat} {v : Value} {n : Nat} {xs : List Value} (h : w.ownsRow base e size v n xs) (hb : base' ≤ base) : w.ownsRow base' e size v n xs := by
  refine ⟨h.1, ?_⟩
  rcases h.2 with h1 | ⟨g, cap, cur, h1, h2, h3⟩
  · exact .inl h1
  · exact .inr ⟨g, cap, cur, h1, Nat.le_trans hb h2, h3⟩

theorem Rd.keep {bt be bp : Nat} {s : ByteArray} {p : Nat} {w w' : World} (h : Rd bt be bp s p w) (hk : ∀ k, k = bt ∨ k = be ∨ k = bp → w'.heap[k]? = w.heap[k]?) : Rd bt be bp s p w' :=
  ⟨by rw [hk bt (.inl rfl)]; exact h.hT, by rw [hk be (.inr (.inl rfl))]; exact h.hE, by rw [hk bp (.inr (.inr rfl))]; exact h.hP⟩

theorem own_form {w : World} {base : Nat} {e : TypeId} {size : Nat} {v : Value} {n : Nat} {xs : List Value} (h : w.ownsRow base e size v n xs) : ∃ ao cap, v = .slice ao n cap := by
  rcases h.2 with ⟨h1, h2⟩ | ⟨g, cap, cur, h1, _⟩
  · exact ⟨none, 0, by rw [h1, h2]⟩
  · exact ⟨_, _, h1⟩

theorem owns_at {w w' : World} {base bp : Nat} {e : TypeId} {size : Nat} {v : Value} {n : Nat} {xs : List Value} (h : w.ownsRow base e size v n xs) (ho : OnlyAt bp w w') (hb : bp < base) : w'.ownsRow base e size v n xs := by
  refine h.kept ho.1 ?_
  cases hv : v.ownBlock with
  | none => exact .inl rfl
  | some k =>
    right
    have := (h.lt k hv).1
    simp
    omega

theorem ret_un {v : Value} {c d : Int} (h : c = d) : Ending.returned (.tuple #[v, .int .i64 c]) = .returned (.tuple #[v, .int .i64 d]) := by rw [h]

set_option maxHeartbeats 1000000 in
set_option maxRecDepth 100000 in
theorem ungamma_any (s : ByteArray) (w : World) (hm : s.size ≤ 9223372036854775807) :
    Calls Tryz.prog 20 #[.string s] w fun e w' => ∃ v, e = .returned (.tuple #[v, .int .i64 (uE s)]) ∧ w'.ownsRow w.heap.size 3 1 v (uV s).length ((uV s).map (Value.int .i64)) ∧ Below w.heap.size w w' := by
  by_cases hs : s.size ≤ 6100
  · obtain ⟨i0, hi, hz0, hz1, hz2⟩ := info_parts Tryz.info3
    have hdec : decide ((6100 : Int) < (s.size : Int)) = false := decide_eq_false (by omega)
    go_enter Tryz.func20, Tryz.ntmps20
    go_wp2_with fail
    refine (reader_any s w).mono ?_
    rintro e w1 ⟨rfl, hR1, hb1, hsz1⟩
    have HR1 := hide hR1
    have HS1 := hide hsz1
    clear hR1 hsz1
    go_wp2
    go_loopg [6] s.size (fun g v wr => ∃ (p : Nat) (acc : List Int), p ≤ s.size ∧ s.size - p ≤ g ∧ acc.length ≤ 100 ∧ Rd w.heap.size (w.heap.size + 1) (w.heap.size + 1 + 1) s p wr ∧ wr.ownsRow (w.heap.size + 3) 3 1 v acc.length (acc.map (Value.int .i64)) ∧ Below w.heap.size w wr ∧ w.heap.size + 3 ≤ wr.heap.size ∧ Hid (unL (g + 1) (rest s p) acc = uR s))
    case atStart => exact ⟨0, [], Nat.zero_le _, by omega, by simp, HR1.out, World.ownsRow_nil _ _ _ _, hb1, by rw [HS1.out]; exact Nat.le_refl _, rfl⟩
    case round =>
      obtain ⟨p, acc, hp, hpg, hal, hR, hrow, hbx, hsz, HU⟩ := hrel
      obtain ⟨ao, cap, rfl⟩ := own_form hrow
      have cE := hide (ended_any _ _ _ s p wr hR)
      by_cases hlt : p < s.size
      · have hend : ((p : Int) == (s.size : Int)) = false := by rw [beq_eq_false_iff_ne]; omega
        have cN := hide (number_any _ _ _ s p wr hR hs hp)
        clear hR
        go_wp2_with (go_at_call 70; refine (unhide cE).mono ?_; rintro e w' ⟨rfl, rfl⟩)
        refine (unhide cN).mono ?_
        rintro e w2 ⟨n, ok, p2, rfl, hR2, hO2, hp2, ⟨rfl, hpp, hread⟩ | ⟨rfl, hnone⟩⟩
        · have hrow2 := owns_at hrow hO2 (by omega)
          have hbx2 : Below w.heap.size w w2 := hbx.grown hO2.1 hbx.size (fun j hj => by cases hj; omega)
          have hsz2 : w.heap.size + 3 ≤ w2.heap.size := by rw [hO2.2]; exact hsz
          have HR2 := hide hR2
          have HRD := hide hread
          clear hrow hbx hR2 hread cN cE hO2
          by_cases hfull : acc.length = 100
          · have hb : ((acc.length : Int) == 100) = true := by rw [beq_iff_eq]; omega
            have hU2 := HU.out
            rw [un_full hlt HRD.out hfull] at hU2
            have HF := hide (u_none hs hU2.symm)
            clear hU2 hfull
            go_wp2
            go_ret2
            refine ⟨_, ret_un HF.out.1.symm, ?_, hbx2⟩
            rw [HF.out.2]
            exact World.ownsRow_nil _ _ _ _
          · have hb : ((acc.length : Int) == 100) = false := by rw [beq_eq_false_iff_ne]; omega
            obtain ⟨g1, rfl⟩ : ∃ g1, gk = g1 + 1 := ⟨gk - 1, by omega⟩
            have hU2 := HU.out
            rw [un_go hlt HRD.out hfull] at hU2
            have HU2 := hide hU2
            clear hU2
            go_wp2_with (at_builtin; refine wpList_append_own _ rfl _ _ 23 rfl (w.heap.size + 3) 3 i0 (.int .i64 0) 1 8 Tryz.underlying23 hi hz0 hz1 hz2 rfl (by decide) _ _ _ rfl (hrow2.alloc _) ⟨w2.heap.size, 0, none⟩ 1 1 [.int .i64 n] rfl rfl (cell_one_new _ _ _) (fun x hx => by simp at hx; subst hx; rfl) (by unfold maxLen; omega) (by omega) (by simp; omega) ?_; intro v' w3 hown' hgrow3 hnil3)
            go_roundg g1
            case measure => omega
            case rel =>
              refine ⟨p2, acc ++ [(n : Int)], hp2, by omega, by simp; omega, ?_, ?_, (hbx2.alloc hbx2.size _).grown hgrow3 (by simp; omega) (fun j hj => by have := (hrow2.lt j hj).1; omega), by have := hgrow3.size; simp at this; omega, HU2⟩
              · refine HR2.out.keep fun k hk => ?_
                have hkl : k < w.heap.size + 3 := by omega
                rw [hgrow3.block k (by simp; omega) (fun e => by have := (hrow2.lt k e.symm).1; omega), Lib.alloc_old _ _ _ (by omega)]
              · rw [List.map_append, List.length_append]
                exact hown'
        · have hbx2 : Below w.heap.size w w2 := hbx.grown hO2.1 hbx.size (fun j hj => by cases hj; omega)
          have hU2 := HU.out
          rw [un_none hlt hnone] at hU2
          have HF := hide (u_none hs hU2.symm)
          clear hrow hbx hR2 hnone hU2 cN cE hO2
          go_wp2
          go_ret2
          refine ⟨_, ret_un HF.out.1.symm, ?_, hbx2⟩
          rw [HF.out.2]
          exact World.ownsRow_nil _ _ _ _
      · have hend : ((p : Int) == (s.size : Int)) = true := by rw [beq_iff_eq]; omega
        have hU2 := HU.out
        rw [un_end hlt] at hU2
        have HF := hide (u_some hs hU2.symm)
        clear hR hU2
        go_wp2_with (go_at_call 70; refine (unhide cE).mono ?_; rintro e w' ⟨rfl, rfl⟩)
        go_ret2
        refine ⟨_, ret_un HF.out.1.symm, ?_, hbx⟩
        rw [HF.out.2]
        exact owns_base hrow (by omega)
  · have H := hide (u_long (s := s) (by omega))
    go_enter Tryz.func20, Tryz.ntmps20
    go_wp2
    go_ret2
    refine ⟨_, ret_un H.out.1.symm, ?_, Below.refl _ _⟩
    rw [H.out.2]
    exact World.ownsRow_nil _ _ _ _
end Go.Proofs.YtkiindkoiomieaaGreatDoor
end

section
/-
  P6: the walk of the document's Ungamma.
-/
namespace Go.Proofs.YtkiindkoiomieaaGreatDoor
open Go.RowKit

theorem bits_short : ∀ (k acc : Nat) (r : List UInt8), r.length < k → readBits k acc r = none
  | 0, _, _, h => by omega
  | k + 1, acc, [], _ => rfl
  | k + 1, acc, c :: r, h => by
    have h' : r.length < k := by simpa using h
    rw [readBits, bits_short k _ r h', bits_short k _ r h']
    simp

theorem rest_length (s : ByteArray) (p : Nat) : (rest s p).length = s.size - p := by rw [rest, List.length_drop, ← Lib.size_eq]
theorem rest_zero (s : ByteArray) : rest s 0 = s.data.toList := rfl

theorem rest_extract (s : ByteArray) (k : Nat) : (s.extract k s.size).data.toList = rest s k := by
  rw [← Lib.toList_data, extract_list]
  exact List.take_of_length_le (by rw [List.length_drop, ← Lib.size_eq]; exact Nat.le_refl _)

theorem tail_bits {s : ByteArray} {p z : Nat} (h : ∀ hp : p < s.size, s[p].toNat ≠ 48) : readTail z (rest s p) = readBits (z + 1) 0 (rest s p) := by
  by_cases hp : p < s.size
  · have h0 : ¬ s[p] = 48 := fun e => h hp (by rw [e]; rfl)
    rw [rest_cons hp, readTail, readBits, if_neg h0]
  · rw [rest_end hp]
    rfl

theorem one_of {s : ByteArray} {z : Nat} (hz : zerosOf (rest s 0) = z) (h30 : z ≤ 30) (h : ∀ hp : z < s.size, s[z].toNat ≠ 48) : readOne (rest s 0) = fits (readBits (z + 1) 0 (rest s z)) := by
  unfold readOne
  rw [hz, rest_drop, if_neg (by omega), Nat.zero_add, tail_bits h]

set_option maxHeartbeats 2000000 in
set_option maxRecDepth 100000 in
theorem refUngamma_any (s : ByteArray) (w : World) (hm : s.size ≤ 9223372036854775807) :
    Calls Tryz.prog 54 #[.string s] w fun e w' => ∃ v, e = .returned (.tuple #[v, .int .i64 (uE s)]) ∧ w'.ownsRow w.heap.size 3 1 v (uV s).length ((uV s).map (Value.int .i64)) ∧ Below w.heap.size w w' := by
  by_cases hs : s.size ≤ 6100
  · obtain ⟨i0, hi, hz0, hz1, hz2⟩ := info_parts Tryz.info3
    have hdec : decide ((6100 : Int) < (s.size : Int)) = false := decide_eq_false (by omega)
    go_enter Tryz.func54, Tryz.ntmps54
    go_wp2
    go_loopg [0, 4] s.size (fun g sv v wr => ∃ (sb : ByteArray) (acc : List Int), sv = .string sb ∧ sb.size ≤ g ∧ sb.size ≤ 6100 ∧ acc.length ≤ 100 ∧ wr.ownsRow w.heap.size 3 1 v acc.length (acc.map (Value.int .i64)) ∧ Below w.heap.size w wr ∧ Hid (unL (g + 1) (rest sb 0) acc = uR s))
    case atStart => exact ⟨s, [], rfl, Nat.le_refl _, hs, by simp, World.ownsRow_nil _ _ _ _, Below.refl _ _, rfl⟩
    case round =>
      obtain ⟨sb, acc, rfl, hsg, hsb, hal, hrow, hbx, HU⟩ := hrel
      obtain ⟨ao, cap, rfl⟩ := own_form hrow
      by_cases hpos : 0 < sb.size
      · go_wp2
        go_loop [5] (fun i => ∃ j : Nat, j ≤ sb.size ∧ i = .int .i64 j ∧ Hid (zerosOf (rest sb 0) = j + zerosOf (rest sb j))) (fun i => sb.size - (intOf i).toNat)
        case atStart => exact ⟨0, Nat.zero_le _, rfl, by show _ = _; rw [Nat.zero_add]⟩
        case round =>
          obtain ⟨j, hj, rfl, HZ⟩ := hrel
          by_cases hmore : ∃ hlt : j < sb.size, sb[j].toNat = 48
          · obtain ⟨hlt, h48⟩ := hmore
            have hb : ((sb[j].toNat : Int) == 48) = true := by rw [beq_iff_eq]; omega
            have hz := zeros_go hlt h48
            have HZ2 := hide hz
            clear hz h48
            go_wp2
            go_round
            case rel => exact ⟨j + 1, by omega, by go_num, by show _ = _; rw [HZ.out, HZ2.out]; omega⟩
            case measure => simp [intOf]; omega
          · have hno : ∀ hp : j < sb.size, sb[j].toNat ≠ 48 := fun hp e => hmore ⟨hp, e⟩
            have hzj : zerosOf (rest sb 0) = j := by rw [HZ.out, zeros_end hno]; rfl
            have HZJ := hide hzj
            have HNO := hide hno
            clear hzj hno hmore
            by_cases hbad : sb.size < 2 * j + 1 ∨ 30 < j
            · have hnone : readOne (rest sb 0) = none := by
                by_cases h30 : 30 < j
                · unfold readOne
                  rw [if_pos (by rw [HZJ.out]; exact h30)]
                · rw [one_of HZJ.out (by omega) HNO.out, bits_short _ _ _ (by rw [rest_length]; omega)]
                  rfl
              have hU2 := HU.out
              rw [un_none hpos hnone] at hU2
              have HF := hide (u_none hs hU2.symm)
              clear hnone hU2
              by_cases hlt : j < sb.size
              · have hb : ((sb[j].toNat : Int) == 48) = false := by rw [beq_eq_false_iff_ne]; have := HNO.out hlt; omega
                go_wp2
                all_goals
                  go_ret2
                  refine ⟨_, ret_un HF.out.1.symm, ?_, hbx⟩
                  rw [HF.out.2]
                  exact World.ownsRow_nil _ _ _ _
              · go_wp2
                all_goals
                  go_ret2
                  refine ⟨_, ret_un HF.out.1.symm, ?_, hbx⟩
                  rw [HF.out.2]
                  exact World.ownsRow_nil _ _ _ _
            · have hlt : j < sb.size := by omega
              have hb : ((sb[j].toNat : Int) == 48) = false := by rw [beq_eq_false_iff_ne]; have := HNO.out hlt; omega
              have h1 : 2 * j + 1 ≤ sb.size := by omega
              have h2 : j ≤ 30 := by omega
              have HONE := hide (one_of HZJ.out h2 HNO.out)
              clear hbad
              go_wp2
              go_loop [6, 7] (fun nv i => ∃ q n : Nat, q ≤ j + 1 ∧ i = .int .i64 ((j + q : Nat) : Int) ∧ nv = .int .i64 n ∧ n ≤ 2147483647 ∧ Hid (n < 2 ^ q) ∧ (0 < q → 1 ≤ n) ∧ Hid (readBits (j + 1) 0 (rest sb j) = readBits (j + 1 - q) n (rest sb (j + q)))) (fun _ i => 2 * j + 1 - (intOf i).toNat)
              case atStart => exact ⟨0, 0, Nat.zero_le _, rfl, rfl, by omega, by show _ < _; decide, fun h => by omega, rfl⟩
              case round =>
                obtain ⟨q, n, hq, rfl, rfl, hn, HN, hn1, HB⟩ := hrel
                have HN1 := hide hn1
                clear hn1
                by_cases hqj : q < j + 1
                · have hlt2 : j + q < sb.size := by omega
                  have key : ∀ x, x < 2 → 2 * n + x < 2 ^ (q + 1) ∧ 2 * n + x ≤ 2147483647 := fun x hx => by
                    have g1 := HN.out
                    have g2 : (2 : Nat) ^ (q + 1) ≤ 2 ^ 31 := Nat.pow_le_pow_right (by omega) (by omega)
                    have g3 : (2 : Nat) ^ 31 = 2147483648 := by decide
                    have g4 : (2 : Nat) ^ (q + 1) = 2 * 2 ^ q := by rw [Nat.pow_succ, Nat.mul_comm]
                    omega
                  have HK := hide key
                  clear key
                  have hwi : j + q < 2 * j + 1 := by omega
                  by_cases hbit : ∃ x, x < 2 ∧ sb[j + q].toNat = 48 + x
                  · obtain ⟨x, hx, hc⟩ := hbit
                    have hx1 : q = 0 → x = 1 := fun h0 => by
                      subst h0
                      have := HNO.out hlt
                      simp only [Nat.add_zero] at hc
                      omega
                    have HX1 := hide hx1
                    have hkb := HK.out x hx
                    have hrb := bits_go (k := j + 1 - q - 1) (acc := n) hlt2 hx hc
                    have HB2 := hide hrb
                    have hcI : (sb[j + q].toNat : Int) = 48 + (x : Int) := by omega
                    have t2 : IntKind.u8.wrap ((sb[j + q].toNat : Int) - 48) = (x : Int) := by rw [hcI, show (48 : Int) + x - 48 = x by omega]; exact IntWalk.u8_in _ (by omega)
                    have HKB := hide hkb.1
                    have hkb2 := hkb.2
                    clear hrb hx1 hkb
                    rcases (show x = 0 ∨ x = 1 by omega) with rfl | rfl
                    · have t0 : ((sb[j + q].toNat : Int) != 48) = false := by rw [hcI]; rfl
                      clear hc hcI
                      go_wp2
                      go_round
                      case rel =>
                        refine ⟨q + 1, 2 * n + 0, by omega, by go_num, by go_num, hkb2, HKB.out, fun _ => ?_, ?_⟩
                        · by_cases h0 : q = 0
                          · have := HX1.out h0
                            omega
                          · have := HN1.out (by omega)
                            omega
                        · show _ = _
                          rw [HB.out, show j + 1 - q = j + 1 - q - 1 + 1 by omega, HB2.out, show j + 1 - (q + 1) = j + 1 - q - 1 by omega, ← Nat.add_assoc]
                      case measure => simp [intOf]; omega
                    · have t0 : ((sb[j + q].toNat : Int) != 48) = true := by rw [hcI]; rfl
                      have t1 : ((sb[j + q].toNat : Int) != 49) = false := by rw [hcI]; rfl
                      clear hc hcI
                      go_wp2
                      go_round
                      case rel =>
                        refine ⟨q + 1, 2 * n + 1, by omega, by go_num, by go_num, hkb2, HKB.out, fun _ => ?_, ?_⟩
                        · by_cases h0 : q = 0
                          · have := HX1.out h0
                            omega
                          · have := HN1.out (by omega)
                            omega
                        · show _ = _
                          rw [HB.out, show j + 1 - q = j + 1 - q - 1 + 1 by omega, HB2.out, show j + 1 - (q + 1) = j + 1 - q - 1 by omega, ← Nat.add_assoc]
                      case measure => simp [intOf]; omega
                  · have hno2 : ∀ hp : j + q < sb.size, sb[j + q].toNat ≠ 48 ∧ sb[j + q].toNat ≠ 49 := fun hp =>
                      ⟨fun e => hbit ⟨0, by omega, e⟩, fun e => hbit ⟨1, by omega, e⟩⟩
                    have hnone : readOne (rest sb 0) = none := by
                      rw [HONE.out, HB.out, show j + 1 - q = j + 1 - q - 1 + 1 by omega, bits_no hno2]
                      rfl
                    have hU2 := HU.out
                    rw [un_none hpos hnone] at hU2
                    have HF := hide (u_none hs hU2.symm)
                    have t0 : ((sb[j + q].toNat : Int) != 48) = true := by rw [bne_iff_ne]; have := hno2 hlt2; omega
                    have t1 : ((sb[j + q].toNat : Int) != 49) = true := by rw [bne_iff_ne]; have := hno2 hlt2; omega
                    clear hno2 hnone hU2 hbit
                    go_wp2
                    go_ret2
                    refine ⟨_, ret_un HF.out.1.symm, ?_, hbx⟩
                    rw [HF.out.2]
                    exact World.ownsRow_nil _ _ _ _
                · have hqe : q = j + 1 := by omega
                  have hfin : readOne (rest sb 0) = fits (some (n, rest sb (2 * j + 1))) := by
                    rw [HONE.out, HB.out, hqe, Nat.sub_self, show j + (j + 1) = 2 * j + 1 by omega]
                    rfl
                  have hn2 := HN1.out (by omega)
                  have HFIN := hide hfin
                  have hqd : decide (((j + q : Nat) : Int) < 2 * (j : Int) + 1) = false := decide_eq_false (by omega)
                  clear hfin hqe
                  by_cases hmax : n ≤ 1073741824
                  · have hread : readOne (rest sb 0) = some (n, rest sb (2 * j + 1)) := by rw [HFIN.out, fits, if_pos hmax]
                    have HRD := hide hread
                    clear hread
                    by_cases hfull : acc.length = 100
                    · have hU2 := HU.out
                      rw [un_full hpos HRD.out hfull] at hU2
                      have HF := hide (u_none hs hU2.symm)
                      have hge : (100 : Int) ≤ (acc.length : Int) := by omega
                      clear hU2 hfull
                      go_wp2
                      all_goals
                        go_ret2
                        refine ⟨_, ret_un HF.out.1.symm, ?_, hbx⟩
                        rw [HF.out.2]
                        exact World.ownsRow_nil _ _ _ _
                    · obtain ⟨g1, rfl⟩ : ∃ g1, gk = g1 + 1 := ⟨gk - 1, by omega⟩
                      have hU2 := HU.out
                      rw [un_go hpos HRD.out hfull, ← rest_extract, ← rest_zero] at hU2
                      have HU2 := hide hU2
                      have hlt3 : (acc.length : Int) < 100 := by omega
                      clear hU2 hfull
                      go_wp2_with (at_builtin; refine wpList_append_own _ rfl _ _ 23 rfl w.heap.size 3 i0 (.int .i64 0) 1 8 Tryz.underlying23 hi hz0 hz1 hz2 rfl (by decide) _ _ _ rfl (hrow.alloc _) ⟨wr.heap.size, 0, none⟩ 1 1 [.int .i64 n] rfl rfl (cell_one_new _ _ _) (fun x hx => by simp at hx; subst hx; rfl) (by unfold maxLen; omega) (by omega) (by have := hbx.size; simp; omega) ?_; intro v' w3 hown' hgrow3 hnil3)
                      go_roundg g1
                      case measure => omega
                      case rel =>
                        refine ⟨sb.extract (2 * j + 1) sb.size, acc ++ [(n : Int)], ?_, by rw [ByteArray.size_extract]; omega, by rw [ByteArray.size_extract]; omega, by simp; omega, ?_, (hbx.alloc hbx.size _).grown hgrow3 (by have := hbx.size; simp; omega) (fun i hi => (hrow.lt i hi).1), HU2⟩
                        · first | rfl | simp
                        · rw [List.map_append, List.length_append]
                          exact hown'
                  · have hnone : readOne (rest sb 0) = none := by rw [HFIN.out, fits, if_neg hmax]
                    have hU2 := HU.out
                    rw [un_none hpos hnone] at hU2
                    have HF := hide (u_none hs hU2.symm)
                    clear hnone hU2
                    go_wp2
                    all_goals
                      go_ret2
                      refine ⟨_, ret_un HF.out.1.symm, ?_, hbx⟩
                      rw [HF.out.2]
                      exact World.ownsRow_nil _ _ _ _
      · have hU2 := HU.out
        rw [un_end hpos] at hU2
        have HF := hide (u_some hs hU2.symm)
        clear hU2
        go_wp2
        go_ret2
        refine ⟨_, ret_un HF.out.1.symm, ?_, hbx⟩
        rw [HF.out.2]
        exact hrow
  · have H := hide (u_long (s := s) (by omega))
    go_enter Tryz.func54, Tryz.ntmps54
    go_wp2
    go_ret2
    refine ⟨_, ret_un H.out.1.symm, ?_, Below.refl _ _⟩
    rw [H.out.2]
    exact World.ownsRow_nil _ _ _ _
end Go.Proofs.YtkiindkoiomieaaGreatDoor
end

section
/-
  P6: the walk of Gammas.
-/
namespace Go.Proofs.YtkiindkoiomieaaGreatDoor
open Go.RowKit

/-- A slice of numbers, as it lies. -/
structure Ints (w : World) (ao : Option Addr) (len : Nat) (zs : List Int) (lb lo : Nat) : Prop where
  hz : zs.length = len
  hao : 0 < len → ao = some ⟨lb, lo, none⟩ ∧ lb < w.heap.size
  hc : ∀ j z, zs[j]? = some z → w.cell? ⟨lb, lo + j, none⟩ = some (.int .i64 z)

theorem Ints.lt {w : World} {ao : Option Addr} {len : Nat} {zs : List Int} {lb lo : Nat} (h : Ints w ao len zs lb lo) {j : Nat} {z : Int} (hj : zs[j]? = some z) : lb < w.heap.size := block_lt_of_cell (h.hc j z hj)

theorem Ints.below {w w' : World} {ao : Option Addr} {len : Nat} {zs : List Int} {lb lo : Nat} (h : Ints w ao len zs lb lo) (hb : Below w.heap.size w w') : Ints w' ao len zs lb lo :=
  ⟨h.hz, fun h0 => ⟨(h.hao h0).1, Nat.lt_of_lt_of_le (h.hao h0).2 hb.size⟩, fun j z hj => (hb.cell (p := ⟨lb, lo + j, none⟩) (h.lt hj)).trans (h.hc j z hj)⟩

theorem row_lt {w : World} {g : Nat} {o : Obj} (h : w.heap[g]? = some o) : g < w.heap.size := (Array.getElem?_eq_some_iff.1 h).1

theorem ints_own {w : World} {base n : Nat} {v : Value} {zs : List Int} (h : w.ownsRow base 3 1 v n (zs.map (Value.int .i64))) : ∃ ao cap g, v = .slice ao n cap ∧ Ints w ao n zs g 0 := by
  have hl : zs.length = n := by have := h.1; simpa using this
  rcases h.2 with ⟨h1, h2⟩ | ⟨g, cap, cur, rfl, h3, h4, h5, h6, h7, h8⟩
  · subst h2
    have hn : zs = [] := List.eq_nil_of_length_eq_zero hl
    subst hn
    exact ⟨none, 0, 0, h1, hl, fun h => by omega, fun j z hj => by simp at hj⟩
  · refine ⟨_, cap, g, rfl, hl, fun _ => ⟨rfl, row_lt h4⟩, fun j z hj => ?_⟩
    have hlt := (List.getElem?_eq_some_iff.1 hj).1
    have := h.cellAt j (by omega)
    rw [Nat.zero_add, this, List.getElem?_map, hj]
    rfl

theorem unL_few : ∀ (f : Nat) (l : List UInt8) (acc out : List Int), acc.length ≤ 100 → unL f l acc = some out → out.length ≤ 100
  | 0, _, _, _, _, h => by simp [unL] at h
  | f + 1, l, acc, out, ha, h => by
    rw [unL] at h
    by_cases hl : l = []
    · rw [if_pos hl] at h
      simp at h
      subst h
      exact ha
    · rw [if_neg hl] at h
      cases hr : readOne l with
      | none => rw [hr] at h; cases h
      | some x =>
        obtain ⟨n, r⟩ := x
        rw [hr] at h
        by_cases h100 : acc.length = 100
        · have h : (if acc.length = 100 then none else unL f r (acc ++ [(n : Int)])) = some out := h
          rw [if_pos h100] at h
          cases h
        · have h : (if acc.length = 100 then none else unL f r (acc ++ [(n : Int)])) = some out := h
          rw [if_neg h100] at h
          exact unL_few f r _ out (by simp; omega) h

theorem uV_few (T : ByteArray) : (uV T).length ≤ 100 := by
  unfold uV
  by_cases h : 6100 < T.size
  · rw [if_pos h]
    simp
  · rw [if_neg h]
    cases hr : uR T with
    | none => simp
    | some l => exact unL_few _ _ _ l (by simp) hr

theorem drewN_below (w : World) (n : Nat) : Below w.heap.size w (w.drewN n) := below_drewN (Below.refl _ _) n

set_option maxHeartbeats 2000000 in
set_option maxRecDepth 100000 in
theorem gammas_any (b off len cap : Nat) (w : World) (hlen : len ≤ 9223372036854775807) (hb : b < w.heap.size)
    (hc : ∀ k, k < len → ∃ (na nb : Int) (S T : ByteArray) (la : Option Addr) (ll lc : Nat) (zs : List Int) (lb lo : Nat), w.cell? ⟨b, off + k * 5, none⟩ = some (.int .i64 na) ∧ w.cell? ⟨b, off + k * 5 + 1, none⟩ = some (.int .i64 nb) ∧
      w.cell? ⟨b, off + k * 5 + 2, none⟩ = some (.string S) ∧ w.cell? ⟨b, off + k * 5 + 3, none⟩ = some (.string T) ∧ w.cell? ⟨b, off + k * 5 + 4, none⟩ = some (.slice la ll lc) ∧ T.size ≤ 9223372036854775807 ∧ ll * 8 ≤ 140737488351232 ∧ Ints w la ll zs lb lo) :
    Calls Tryz.prog 29 #[.slice (some ⟨b, off, none⟩) len cap] w fun e w' => e = .returned (.bool true) ∧ Below w.heap.size w w' := by
  have HC := hide hc
  clear hc
  go_enter Tryz.func29, Tryz.ntmps29
  go_wp2
  go_loopw [3] (fun i wr => ∃ k : Nat, k ≤ len ∧ i = .int .i64 k ∧ Below w.heap.size w wr) (fun i _ => len - (intOf i).toNat)
  case atStart => exact ⟨0, Nat.zero_le _, rfl, Below.refl _ _⟩
  case round =>
    obtain ⟨k, hk, rfl, hbx⟩ := hrel
    by_cases hlt : k < len
    · by_cases hbig : (k : Int) < 1152921504606846976
      · have hd : decide ((k : Int) < 1152921504606846976) = true := decide_eq_true hbig
        clear hbig
        obtain ⟨na, nb, S, T, la, ll, lc, zs, lb, lo, c0, c1, c2, c3, c4, hT, hL, hI⟩ := HC.out k hlt
        have kc : ∀ o, wr.cell? ⟨b, o, none⟩ = w.cell? ⟨b, o, none⟩ := fun o => hbx.cell (p := ⟨b, o, none⟩) hb
        rw [← kc] at c0 c1 c2 c3 c4
        have hI1 := hide (hI.below hbx)
        clear kc hI
        obtain ⟨X, hX⟩ : ∃ X : ByteArray, X = ⟨(gS zs).toArray⟩ := ⟨_, rfl⟩
        obtain ⟨E, hE⟩ : ∃ E, E = gE zs := ⟨_, rfl⟩
        obtain ⟨F, hF⟩ : ∃ F, F = uE T := ⟨_, rfl⟩
        have hEE : (E != E) = false := by simp
        have hFF : (F != F) = false := by simp
        have HX := hide (And.intro hX (And.intro hE hF))
        clear hX hE hF
        go_wp2_with fail
        obtain ⟨W0, hW0⟩ : ∃ W0, W0 = wr.alloc (.cells #[.int .i64 na, .int .i64 nb, .string S, .string T, .slice la ll lc] 25) := ⟨_, rfl⟩
        rw [← hW0]
        have b0 : Below wr.heap.size wr W0 := by rw [hW0]; exact (Below.refl _ _).alloc (Nat.le_refl _) _
        have n0 : wr.heap.size < W0.heap.size := by rw [hW0]; simp
        have f4 : W0.cell? ⟨wr.heap.size, 4, none⟩ = some (.slice la ll lc) := by rw [hW0]; exact World.cell?_alloc_new wr _ 25 4
        have f3 : W0.cell? ⟨wr.heap.size, 3, none⟩ = some (.string T) := by rw [hW0]; exact World.cell?_alloc_new wr _ 25 3
        have i0 := hI1.out.below b0
        clear hW0 c0 c1 c2 c3 c4 hI1
        refine (copied_any la ll lc zs lb lo W0 i0.hz hL i0.hao i0.hc).mono ?_
        rintro e W1 ⟨v, rfl, own1, b1⟩
        obtain ⟨ao, cap1, g, rfl, v1⟩ := ints_own own1
        have e4 : W1.cell? ⟨wr.heap.size, 4, none⟩ = some (.slice la ll lc) := (b1.cell (p := ⟨wr.heap.size, 4, none⟩) n0).trans f4
        have e3 : W1.cell? ⟨wr.heap.size, 3, none⟩ = some (.string T) := (b1.cell (p := ⟨wr.heap.size, 3, none⟩) n0).trans f3
        have i1 := i0.below b1
        have n1 : wr.heap.size < W1.heap.size := Nat.lt_of_lt_of_le n0 b1.size
        have I1 := hide (And.intro i1 v1)
        clear own1 f4 f3 i0 i1 v1
        go_wp2_with fail
        refine (gamma_any ao ll cap1 zs g 0 W1 I1.out.2.hz (by omega) I1.out.2.hao I1.out.2.hc).mono ?_
        rw [← HX.out.1, ← HX.out.2.1]
        rintro e W2 ⟨rfl, b2⟩
        have f4 : W2.cell? ⟨wr.heap.size, 4, none⟩ = some (.slice la ll lc) := (b2.cell (p := ⟨wr.heap.size, 4, none⟩) n1).trans e4
        have f3 : W2.cell? ⟨wr.heap.size, 3, none⟩ = some (.string T) := (b2.cell (p := ⟨wr.heap.size, 3, none⟩) n1).trans e3
        have I2 := hide (And.intro (I1.out.1.below b2) (I1.out.2.below b2))
        have n2 : wr.heap.size < W2.heap.size := Nat.lt_of_lt_of_le n1 b2.size
        clear e4 e3 I1
        go_wp2_with fail
        refine (refGamma_any la ll lc zs lb lo W2 I2.out.1.hz (by omega) I2.out.1.hao I2.out.1.hc).mono ?_
        rw [← HX.out.1, ← HX.out.2.1]
        rintro e W2' ⟨rfl, hw2⟩
        subst hw2
        go_wp2_with fail
        refine (same_any ao la ll cap1 lc zs g 0 lb lo W2' I2.out.1.hz (by omega) (fun h => ⟨(I2.out.2.hao h).1, (I2.out.1.hao h).1⟩) (fun j z hj => ⟨I2.out.2.hc j z hj, I2.out.1.hc j z hj⟩)).mono ?_
        rintro e W2n ⟨rfl, nq, rfl⟩
        clear I2
        go_wp2_with fail
        refine (ungamma_any T (W2'.drewN nq) hT).mono ?_
        rw [← HX.out.2.2]
        rintro e W3 ⟨v3, rfl, own3, b3⟩
        obtain ⟨ao3, cap3, g3, rfl, v3i⟩ := ints_own own3
        have e3 : W3.cell? ⟨wr.heap.size, 3, none⟩ = some (.string T) := (b3.cell (p := ⟨wr.heap.size, 3, none⟩) n2).trans f3
        have V3 := hide v3i
        clear own3 v3i f3 f4
        go_wp2_with fail
        refine (refUngamma_any T W3 hT).mono ?_
        rw [← HX.out.2.2]
        rintro e W4 ⟨v4, rfl, own4, b4⟩
        obtain ⟨ao4, cap4, g4, rfl, v4i⟩ := ints_own own4
        have V34 := hide (And.intro (V3.out.below b4) v4i)
        clear own4 v4i e3 V3
        obtain ⟨m, hm⟩ : ∃ m, m = (uV T).length := ⟨_, rfl⟩
        rw [← hm] at V34
        rw [← hm]
        have hml : m ≤ 9223372036854775807 := by
          rw [hm]
          exact Nat.le_trans (uV_few T) (by omega)
        clear hm
        go_wp2_with fail
        refine (same_any ao3 ao4 m cap3 cap4 (uV T) g3 0 g4 0 W4 V34.out.1.hz hml (fun h => ⟨(V34.out.1.hao h).1, (V34.out.2.hao h).1⟩) (fun j z hj => ⟨V34.out.1.hc j z hj, V34.out.2.hc j z hj⟩)).mono ?_
        rintro e W5 ⟨rfl, nq5, rfl⟩
        have hfin : Below w.heap.size w (W4.drewN nq5) := by
          have s0 : w.heap.size ≤ wr.heap.size := hbx.size
          refine below_drewN ?_ nq5
          refine ((((hbx.trans (b0.mono s0)).trans (b1.mono (by omega))).trans (b2.mono (by omega))).trans ?_)
          have b3' : Below w.heap.size W2' W3 := (below_drewN (Below.refl _ _) nq).trans (b3.mono (by show w.heap.size ≤ W2'.heap.size; omega))
          exact b3'.trans (b4.mono (by have := b3'.size; omega))
        clear V34 b0 b1 b2 b3 b4 n0 n1 n2
        go_wp2_with go_in
        go_roundw
        case rel => exact ⟨k + 1, by omega, by go_num, hfin⟩
        case measure => simp [intOf]; omega
      · have hd : decide ((k : Int) < 1152921504606846976) = false := decide_eq_false hbig
        clear hbig
        go_wp2
        go_ret
        exact ⟨rfl, hbx⟩
    · go_wp2
      go_ret
      exact ⟨rfl, hbx⟩

set_option maxHeartbeats 400000 in
theorem gammas_zero (ao : Option Addr) (cap : Nat) (w : World) :
    Calls Tryz.prog 29 #[.slice ao 0 cap] w fun e w' => e = .returned (.bool true) ∧ Below w.heap.size w w' := by
  go_enter Tryz.func29, Tryz.ntmps29
  go_wp2
  refine wp_loop_rounds 1 ?_
  rw [rounds_succ]
  go_wp2
  go_ret
  exact ⟨rfl, Below.refl _ _⟩
end Go.Proofs.YtkiindkoiomieaaGreatDoor
end

section
/-
  Plain mathematics of P5: there and back. Nothing of the program.
-/
namespace Go.Proofs.YtkiindkoiomieaaGreatDoor

theorem behind_front : ∀ (s l : List UInt8), Full l → behindL l (frontL l s) = s
  | [], _, _ => rfl
  | c :: s, l, h => by
    have hi := idx_lt h c
    have e : (UInt8.ofNat (l.idxOf c)).toNat = l.idxOf c := by simp; omega
    have hl : l.idxOf c < l.length := by rw [h.1]; exact hi
    rw [frontL, behindL, e, behind_front s _ (h.mtf hi), List.getElem?_eq_getElem hl, List.getElem_idxOf hl]
    rfl

theorem front_inj {s t : List UInt8} (h : frontL (part 256) s = frontL (part 256) t) : s = t := by
  rw [← behind_front s _ full_part, ← behind_front t _ full_part, h]

theorem front_length : ∀ (s l : List UInt8), (frontL l s).length = s.length
  | [], _ => rfl
  | c :: s, l => by rw [frontL, List.length_cons, List.length_cons, front_length s]
end Go.Proofs.YtkiindkoiomieaaGreatDoor
end

