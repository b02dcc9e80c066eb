/-
  Plain mathematics of P6: numbers as bits.
-/
import Derived.Lib.BitFns
import Derived.Lib.ItoaNum
namespace Go.Proofs.Ytkiindkoiomieaa

/-- The j lowest binary digits of n, the highest first, as letters. -/
def lowB : Nat → Nat → List UInt8
  | 0, _ => []
  | j + 1, n => UInt8.ofNat (48 + n / 2 ^ j % 2) :: lowB j n

/-- How many binary digits. -/
def dig (n : Nat) : Nat := Lib.bitLen n

/-- One number as bits. -/
def gammaOne (n : Nat) : List UInt8 := List.replicate (dig n - 1) 48 ++ lowB (dig n) n

/-- Numbers as bits. -/
def gammaL (zs : List Int) : List UInt8 := (zs.map fun z => gammaOne z.toNat).flatten

theorem dig_bounds {n : Nat} (h0 : 1 ≤ n) (h1 : n ≤ 1073741824) : 1 ≤ dig n ∧ dig n ≤ 31 ∧ 2 ^ (dig n - 1) ≤ n ∧ n < 2 ^ dig n := by
  obtain ⟨a, b, c⟩ := Lib.bitLenAux_bounds 64 n (by omega) (by omega)
  refine ⟨a, ?_, b, c⟩
  show Lib.bitLenAux 64 n ≤ 31
  have key : ∀ d, 2 ^ (d - 1) ≤ n → d ≤ 31 := fun d hd => by
    by_cases hd2 : d ≤ 31
    · exact hd2
    · have h2 : (2 : Nat) ^ 31 ≤ 2 ^ (d - 1) := Nat.pow_le_pow_right (by omega) (by omega)
      have h3 : (2 : Nat) ^ 31 = 2147483648 := by decide
      omega
  exact key _ b

theorem lowB_length : ∀ j n, (lowB j n).length = j
  | 0, _ => rfl
  | j + 1, n => by simp [lowB, lowB_length j n]

theorem gammaOne_length {n : Nat} (h0 : 1 ≤ n) (h1 : n ≤ 1073741824) : (gammaOne n).length ≤ 61 := by
  have := dig_bounds h0 h1
  simp [gammaOne, lowB_length]
  omega

theorem gammaL_length : ∀ (zs : List Int), (∀ z ∈ zs, 1 ≤ z ∧ z ≤ 1073741824) → (gammaL zs).length ≤ 61 * zs.length
  | [], _ => by simp [gammaL]
  | z :: zs, h => by
    have h1 := gammaOne_length (n := z.toNat) (by have := h z (by simp); omega) (by have := h z (by simp); omega)
    have h2 := gammaL_length zs fun y hy => h y (by simp [hy])
    have e : gammaL (z :: zs) = gammaOne z.toNat ++ gammaL zs := by simp [gammaL]
    rw [e, List.length_append, List.length_cons]
    omega

theorem gammaL_snoc (zs : List Int) (z : Int) : gammaL (zs ++ [z]) = gammaL zs ++ gammaOne z.toNat := by simp [gammaL]

theorem bit_cast (n i : Nat) : ((UInt8.ofNat (48 + n / 2 ^ i % 2)).toNat : Int) = 48 + ((n / 2 ^ i % 2 : Nat) : Int) := by
  have := Nat.mod_lt (n / 2 ^ i) (show 0 < 2 by omega)
  simp
  omega
end Go.Proofs.Ytkiindkoiomieaa
