/-
  P6: bits read: plain functions, and the walks of the reader's closures.
-/
import Derived.Test.YtkiindkoiomieaaGammaRef
namespace Go.Proofs.Ytkiindkoiomieaa
open Go.RowKit

/-- How many letters 0 stand first. -/
def zerosOf : List UInt8 → Nat
  | [] => 0
  | c :: r => if c = 48 then zerosOf r + 1 else 0

/-- So many binary digits read behind acc. -/
def readBits : Nat → Nat → List UInt8 → Option (Nat × List UInt8)
  | 0, acc, l => some (acc, l)
  | _ + 1, _, [] => none
  | k + 1, acc, c :: r => if c = 48 then readBits k (2 * acc) r else if c = 49 then readBits k (2 * acc + 1) r else none

/-- The digits behind the first one. -/
def readTail (z : Nat) : List UInt8 → Option (Nat × List UInt8)
  | [] => none
  | c :: r => if c = 49 then readBits z 1 r else none

/-- A number that may be. -/
def fits : Option (Nat × List UInt8) → Option (Nat × List UInt8)
  | none => none
  | some (n, r) => if n ≤ 1073741824 then some (n, r) else none

/-- One number read. -/
def readOne (l : List UInt8) : Option (Nat × List UInt8) := if 30 < zerosOf l then none else fits (readTail (zerosOf l) (l.drop (zerosOf l)))

theorem zeros_step {l r : List UInt8} (h : l = 48 :: r) : zerosOf l = zerosOf r + 1 := by subst h; rfl

/-- What the reader's variables hold: the text, the function that tells the end, the place. -/
structure Rd (bt be bp : Nat) (s : ByteArray) (p : Nat) (w : World) : Prop where
  hT : w.heap[bt]? = some (.cells #[.string s] 9 (0, 0))
  hE : w.heap[be]? = some (.cells #[.func (.func 44) #[] #[.pointer (some ⟨bp, 0, none⟩), .pointer (some ⟨bt, 0, none⟩)]] 53 (0, 0))
  hP : w.heap[bp]? = some (.cells #[.int .i64 (p : Int)] 3 (0, 0))

theorem Rd.cT {bt be bp : Nat} {s : ByteArray} {p : Nat} {w : World} (h : Rd bt be bp s p w) : w.cell? ⟨bt, 0, none⟩ = some (.string s) := by rw [Lib.cell_of_heap h.hT]; rfl
theorem Rd.cE {bt be bp : Nat} {s : ByteArray} {p : Nat} {w : World} (h : Rd bt be bp s p w) : w.cell? ⟨be, 0, none⟩ = some (.func (.func 44) #[] #[.pointer (some ⟨bp, 0, none⟩), .pointer (some ⟨bt, 0, none⟩)]) := by rw [Lib.cell_of_heap h.hE]; rfl
theorem Rd.cP {bt be bp : Nat} {s : ByteArray} {p : Nat} {w : World} (h : Rd bt be bp s p w) : w.cell? ⟨bp, 0, none⟩ = some (.int .i64 (p : Int)) := by rw [Lib.cell_of_heap h.hP]; rfl
theorem Rd.fP {bt be bp : Nat} {s : ByteArray} {p : Nat} {w : World} (h : Rd bt be bp s p w) : w.frozen? ⟨bp, 0, none⟩ = false := Lib.frozen_of_heap h.hP 0
theorem Rd.ne1 {bt be bp : Nat} {s : ByteArray} {p : Nat} {w : World} (h : Rd bt be bp s p w) : bt ≠ bp := fun e => by
  have h1 := h.hT
  rw [e, h.hP] at h1
  simp at h1
theorem Rd.ne2 {bt be bp : Nat} {s : ByteArray} {p : Nat} {w : World} (h : Rd bt be bp s p w) : be ≠ bp := fun e => by
  have h1 := h.hE
  rw [e, h.hP] at h1
  simp at h1

theorem Rd.move {bt be bp : Nat} {s : ByteArray} {p : Nat} {w : World} (h : Rd bt be bp s p w) (q : Nat) : Rd bt be bp s q (w.setCell ⟨bp, 0, none⟩ (.int .i64 (q : Int))) := by
  refine ⟨?_, ?_, ?_⟩
  · rw [heap_setCell_other _ _ _ _ (by exact h.ne1)]
    exact h.hT
  · rw [heap_setCell_other _ _ _ _ (by exact h.ne2)]
    exact h.hE
  · rw [heap_setCell_same _ _ _ _ _ _ h.hP]
    rfl

/-- Nothing has turned but the place. -/
def OnlyAt (bp : Nat) (w w' : World) : Prop := w.grownBy w' (some bp) ∧ w'.heap.size = w.heap.size

theorem OnlyAt.refl (bp : Nat) (w : World) : OnlyAt bp w w := ⟨⟨rfl, rfl, rfl, Nat.le_refl _, fun _ _ _ => rfl⟩, rfl⟩
theorem OnlyAt.trans {bp : Nat} {a b c : World} (h : OnlyAt bp a b) (k : OnlyAt bp b c) : OnlyAt bp a c :=
  ⟨⟨k.1.os.trans h.1.os, k.1.tape.trans h.1.tape, k.1.output.trans h.1.output, Nat.le_trans h.1.size k.1.size, fun j hj hne => (k.1.block j (by rw [h.2]; exact hj) hne).trans (h.1.block j hj hne)⟩, k.2.trans h.2⟩
theorem OnlyAt.set (bp : Nat) (w : World) (v : Value) : OnlyAt bp w (w.setCell ⟨bp, 0, none⟩ v) :=
  ⟨⟨rfl, rfl, rfl, by simp, fun k hk hne => heap_setCell_other _ _ _ _ (fun e => hne (by rw [e]))⟩, by simp⟩

set_option maxHeartbeats 400000 in
set_option maxRecDepth 100000 in
theorem ended_any (bt be bp : Nat) (s : ByteArray) (p : Nat) (w : World) (h : Rd bt be bp s p w) :
    Calls Try.prog 44 #[.pointer (some ⟨bp, 0, none⟩), .pointer (some ⟨bt, 0, none⟩)] w fun e w' => e = .returned (.bool ((p : Int) == (s.size : Int))) ∧ w' = w := by
  have c1 := h.cT
  have c2 := h.cP
  clear h
  go_enter Try.func44, Try.ntmps44
  go_wp2
  go_ret
  exact ⟨rfl, rfl⟩

set_option maxHeartbeats 1000000 in
set_option maxRecDepth 100000 in
theorem next_bit (bt be bp : Nat) (s : ByteArray) (p x : Nat) (w : World) (h : Rd bt be bp s p w) (hs : s.size ≤ 6100) (hp : p < s.size) (hx : x < 2) (hc : s[p].toNat = 48 + x) :
    Calls Try.prog 45 #[.pointer (some ⟨be, 0, none⟩), .pointer (some ⟨bt, 0, none⟩), .pointer (some ⟨bp, 0, none⟩)] w fun e w' => e = .returned (.tuple #[.int .i64 x, .bool true]) ∧ w' = w.setCell ⟨bp, 0, none⟩ (.int .i64 ((p + 1 : Nat) : Int)) := by
  have c1 := h.cT
  have c2 := h.cP
  have c3 := h.cE
  have f2 := h.fP
  have hend : ((p : Int) == (s.size : Int)) = false := by rw [beq_eq_false_iff_ne]; omega
  have cE := ended_any bt be bp s p w h
  rw [hend] at cE
  have CE := hide cE
  clear h cE
  have hcI : (s[p].toNat : Int) = 48 + (x : Int) := by omega
  have HC := hide hcI
  clear hcI
  rcases (show x = 0 ∨ x = 1 by omega) with rfl | rfl
  · have t0 : ((s[p].toNat : Int) != 48) = false := by rw [HC.out]; rfl
    have t1 : IntKind.u8.wrap ((s[p].toNat : Int) - 48) = 0 := by rw [HC.out]; rfl
    go_enter Try.func45, Try.ntmps45
    go_wp2_with (go_at_call 44; refine (unhide CE).mono ?_; rintro e w' ⟨rfl, rfl⟩)
    go_ret2
    exact ⟨rfl, by rw [Int.natCast_add]; rfl⟩
  · have t0 : ((s[p].toNat : Int) != 48) = true := by rw [HC.out]; rfl
    have t2 : ((s[p].toNat : Int) != 49) = false := by rw [HC.out]; rfl
    have t1 : IntKind.u8.wrap ((s[p].toNat : Int) - 48) = 1 := by rw [HC.out]; rfl
    go_enter Try.func45, Try.ntmps45
    go_wp2_with (go_at_call 44; refine (unhide CE).mono ?_; rintro e w' ⟨rfl, rfl⟩)
    go_ret2
    exact ⟨rfl, by rw [Int.natCast_add]; rfl⟩

set_option maxHeartbeats 1000000 in
set_option maxRecDepth 100000 in
theorem next_no (bt be bp : Nat) (s : ByteArray) (p : Nat) (w : World) (h : Rd bt be bp s p w) (hp : p ≤ s.size) (hc : ∀ hp' : p < s.size, s[p].toNat ≠ 48 ∧ s[p].toNat ≠ 49) :
    Calls Try.prog 45 #[.pointer (some ⟨be, 0, none⟩), .pointer (some ⟨bt, 0, none⟩), .pointer (some ⟨bp, 0, none⟩)] w fun e w' => e = .returned (.tuple #[.int .i64 0, .bool false]) ∧ w' = w := by
  have c1 := h.cT
  have c2 := h.cP
  have c3 := h.cE
  have cE := ended_any bt be bp s p w h
  clear h
  by_cases hlt : p < s.size
  · have hend : ((p : Int) == (s.size : Int)) = false := by rw [beq_eq_false_iff_ne]; omega
    rw [hend] at cE
    have CE := hide cE
    have hn := hc hlt
    have t0 : ((s[p].toNat : Int) != 48) = true := by rw [bne_iff_ne]; omega
    have t2 : ((s[p].toNat : Int) != 49) = true := by rw [bne_iff_ne]; omega
    clear cE hc hn
    go_enter Try.func45, Try.ntmps45
    go_wp2_with (go_at_call 44; refine (unhide CE).mono ?_; rintro e w' ⟨rfl, rfl⟩)
    go_ret2
    exact ⟨rfl, rfl⟩
  · have hend : ((p : Int) == (s.size : Int)) = true := by rw [beq_iff_eq]; omega
    rw [hend] at cE
    have CE := hide cE
    clear cE hc
    go_enter Try.func45, Try.ntmps45
    go_wp2_with (go_at_call 44; refine (unhide CE).mono ?_; rintro e w' ⟨rfl, rfl⟩)
    go_ret2
    exact ⟨rfl, rfl⟩

/-- The letters from a place on. -/
def rest (s : ByteArray) (p : Nat) : List UInt8 := s.data.toList.drop p

theorem rest_cons {s : ByteArray} {p : Nat} (h : p < s.size) : rest s p = s[p] :: rest s (p + 1) := drop_byte s p h
theorem rest_end {s : ByteArray} {p : Nat} (h : ¬ p < s.size) : rest s p = [] := drop_end s p h
theorem rest_drop (s : ByteArray) (p j : Nat) : (rest s p).drop j = rest s (p + j) := by simp [rest]

theorem byte_is {c : UInt8} {n : Nat} (h : c.toNat = n) : c = UInt8.ofNat n := by rw [← h]; simp

theorem zeros_end {s : ByteArray} {p : Nat} (h : ∀ hp : p < s.size, s[p].toNat ≠ 48) : zerosOf (rest s p) = 0 := by
  by_cases hp : p < s.size
  · rw [rest_cons hp, zerosOf, if_neg (fun e => h hp (by rw [e]; rfl))]
  · rw [rest_end hp]
    rfl

theorem zeros_go {s : ByteArray} {p : Nat} (hp : p < s.size) (h : s[p].toNat = 48) : zerosOf (rest s p) = zerosOf (rest s (p + 1)) + 1 :=
  zeros_step (by rw [rest_cons hp, byte_is h]; rfl)

theorem no_number {s : ByteArray} {p z : Nat} (hz : zerosOf (rest s p) = z) (h : ∀ hp : p + z < s.size, s[p + z].toNat ≠ 49) : readOne (rest s p) = none := by
  unfold readOne
  rw [hz, rest_drop]
  by_cases h30 : 30 < z
  · rw [if_pos h30]
  · rw [if_neg h30]
    by_cases hp : p + z < s.size
    · rw [rest_cons hp, readTail, if_neg (fun e => h hp (by rw [e]; rfl))]
      rfl
    · rw [rest_end hp]
      rfl

theorem a_number {s : ByteArray} {p z : Nat} (hz : zerosOf (rest s p) = z) (h30 : z ≤ 30) (hp : p + z < s.size) (h : s[p + z].toNat = 49) : readOne (rest s p) = fits (readBits z 1 (rest s (p + z + 1))) := by
  unfold readOne
  rw [hz, rest_drop, if_neg (by omega), rest_cons hp, byte_is h, readTail, if_pos (show UInt8.ofNat 49 = 49 from rfl)]

set_option maxHeartbeats 1000000 in
set_option maxRecDepth 100000 in
theorem zeros_any (bt be bp : Nat) (s : ByteArray) (p : Nat) (w : World) (h : Rd bt be bp s p w) (hs : s.size ≤ 6100) (hp : p ≤ s.size) :
    Calls Try.prog 46 #[.func (.func 45) #[] #[.pointer (some ⟨be, 0, none⟩), .pointer (some ⟨bt, 0, none⟩), .pointer (some ⟨bp, 0, none⟩)]] w fun e w' => ∃ (z : Nat) (ok : Bool) (p' : Nat), e = .returned (.tuple #[.int .i64 z, .bool ok]) ∧ Rd bt be bp s p' w' ∧ OnlyAt bp w w' ∧ p' ≤ s.size ∧
      ((ok = true ∧ z ≤ 30 ∧ p' = p + z + 1 ∧ readOne (rest s p) = fits (readBits z 1 (rest s p'))) ∨ (ok = false ∧ readOne (rest s p) = none)) := by
  go_enter Try.func46, Try.ntmps46
  go_wp2
  go_loopw [2] (fun i wr => ∃ j : Nat, j ≤ 31 ∧ i = .int .i64 j ∧ p + j ≤ s.size ∧ Rd bt be bp s (p + j) wr ∧ OnlyAt bp w wr ∧ Hid (zerosOf (rest s p) = j + zerosOf (rest s (p + j)))) (fun i _ => 31 - (intOf i).toNat)
  case atStart => exact ⟨0, by omega, rfl, hp, h, OnlyAt.refl _ _, by show _ = _; rw [Nat.add_zero, Nat.zero_add]⟩
  case round =>
    clear h
    obtain ⟨j, hj, rfl, hpj, hR, hO, HZ⟩ := hrel
    by_cases h31 : j < 31
    · by_cases hlt : p + j < s.size
      · by_cases c48 : s[p + j].toNat = 48
        · have cN := hide (next_bit bt be bp s (p + j) 0 wr hR hs hlt (by omega) c48)
          have HR := hide hR
          have hz := zeros_go hlt c48
          have HZ2 := hide hz
          clear hR hz c48
          go_wp2_with (go_at_call 45; refine (unhide cN).mono ?_; rintro e w' ⟨rfl, rfl⟩)
          go_roundw
          case rel => exact ⟨j + 1, by omega, by go_num, by omega, by have := HR.out.move (p + j + 1); rw [← Nat.add_assoc]; exact this, hO.trans (OnlyAt.set _ _ _), by show _ = _; rw [HZ.out, HZ2.out, ← Nat.add_assoc p j 1]; omega⟩
          case measure => simp [intOf]; omega
        · by_cases c49 : s[p + j].toNat = 49
          · have cN := hide (next_bit bt be bp s (p + j) 1 wr hR hs hlt (by omega) c49)
            have HR := hide hR
            have hz : zerosOf (rest s p) = j := by rw [HZ.out, zeros_end (fun _ => c48)]; rfl
            have HN := hide (a_number hz (by omega) hlt c49)
            clear hR hz c48 c49
            go_wp2_with (go_at_call 45; refine (unhide cN).mono ?_; rintro e w' ⟨rfl, rfl⟩)
            go_ret2
            exact ⟨j, true, p + j + 1, rfl, HR.out.move _, hO.trans (OnlyAt.set _ _ _), by omega, .inl ⟨rfl, by omega, rfl, HN.out⟩⟩
          · have cN := hide (next_no bt be bp s (p + j) wr hR hpj (fun _ => ⟨c48, c49⟩))
            have HR := hide hR
            have hz : zerosOf (rest s p) = j := by rw [HZ.out, zeros_end (fun _ => c48)]; rfl
            have HN := hide (no_number hz (fun _ => c49))
            clear hR hz c48 c49
            go_wp2_with (go_at_call 45; refine (unhide cN).mono ?_; rintro e w' ⟨rfl, rfl⟩)
            go_ret2
            exact ⟨j, false, p + j, rfl, HR.out, hO, by omega, .inr ⟨rfl, HN.out⟩⟩
      · have cN := hide (next_no bt be bp s (p + j) wr hR hpj (fun h => absurd h hlt))
        have HR := hide hR
        have hz : zerosOf (rest s p) = j := by rw [HZ.out, zeros_end (fun h => absurd h hlt)]; rfl
        have HN := hide (no_number hz (fun h => absurd h hlt))
        clear hR hz
        go_wp2_with (go_at_call 45; refine (unhide cN).mono ?_; rintro e w' ⟨rfl, rfl⟩)
        go_ret2
        exact ⟨j, false, p + j, rfl, HR.out, hO, by omega, .inr ⟨rfl, HN.out⟩⟩
    · have HN : Hid (readOne (rest s p) = none) := by
        show _ = _
        unfold readOne
        rw [if_pos (by have := HZ.out; omega)]
      go_wp2
      go_ret2
      exact ⟨0, false, p + j, rfl, hR, hO, by omega, .inr ⟨rfl, HN.out⟩⟩
end Go.Proofs.Ytkiindkoiomieaa
