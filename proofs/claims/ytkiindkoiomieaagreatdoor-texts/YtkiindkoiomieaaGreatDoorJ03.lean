import Derived.Test.YtkiindkoiomieaaGreatDoorJ02
section
/-
  Plain mathematics of P7: numbers read from any source of bits, the telling, bits as bytes. Nothing of the program.
-/
namespace Go.Proofs.YtkiindkoiomieaaGreatDoor.Co

/-! ### Numbers read from a source -/
section
variable {σ : Type} (nx : σ → Option (Nat × σ))
def zerosG : Nat → Nat → σ → Option (Nat × σ)
  | 0, _, _ => none
  | f + 1, z, s => match nx s with
    | none => none
    | some (b, t) => if b = 1 then some (z, t) else zerosG f (z + 1) t
def digitsG : Nat → Nat → σ → Option (Nat × σ)
  | 0, n, s => some (n, s)
  | k + 1, n, s => match nx s with
    | none => none
    | some (b, t) => digitsG k (2 * n + b) t
def numG (s : σ) : Option (Nat × σ) := match zerosG nx 31 0 s with
  | none => none
  | some (z, t) => match digitsG nx z 1 t with
    | none => none
    | some (n, u) => if n ≤ 1073741824 then some (n, u) else none
def toldG (s : σ) : Option (Nat × σ) := match numG nx s with
  | none => none
  | some (n, t) => if n ≤ 256 then some (n, t) else none
/-- A telling read until it has told so many. -/
def placesG (size : Nat) : Nat → List UInt8 → σ → Option (List UInt8)
  | 0, acc, _ => if acc.length < size then none else some acc
  | f + 1, acc, s => if acc.length < size then (match toldG nx s with
    | none => none
    | some (n, t) => if n = 1 then (match toldG nx t with
      | none => none
      | some (k, u) => placesG size f (acc ++ List.replicate k 0) u) else placesG size f (acc ++ [UInt8.ofNat (n - 1)]) t) else some acc
end

section
variable {σ τ : Type} {nx : σ → Option (Nat × σ)} {ny : τ → Option (Nat × τ)} (R : σ → τ → Prop) (hR : ∀ s t b s', R s t → nx s = some (b, s') → ∃ t', ny t = some (b, t') ∧ R s' t')
include hR
theorem zeros_sim : ∀ (f z : Nat) (s : σ) (t : τ) (n : Nat) (s' : σ), R s t → zerosG nx f z s = some (n, s') → ∃ t', zerosG ny f z t = some (n, t') ∧ R s' t'
  | 0, _, _, _, _, _, _, h => by simp [zerosG] at h
  | f + 1, z, s, t, n, s', hs, h => by
    rw [zerosG] at h
    cases e : nx s with
    | none => rw [e] at h; simp at h
    | some v =>
      obtain ⟨b, s1⟩ := v
      obtain ⟨t1, h1, h2⟩ := hR s t b s1 hs e
      rw [e] at h
      simp only at h
      rw [zerosG, h1]
      simp only
      by_cases hb : b = 1
      · rw [if_pos hb] at h
        rw [if_pos hb]
        simp only [Option.some.injEq, Prod.mk.injEq] at h
        obtain ⟨rfl, rfl⟩ := h
        exact ⟨t1, rfl, h2⟩
      · rw [if_neg hb] at h
        rw [if_neg hb]
        exact zeros_sim f (z + 1) s1 t1 n s' h2 h
theorem digits_sim : ∀ (k m : Nat) (s : σ) (t : τ) (n : Nat) (s' : σ), R s t → digitsG nx k m s = some (n, s') → ∃ t', digitsG ny k m t = some (n, t') ∧ R s' t'
  | 0, m, s, t, n, s', hs, h => by
    simp only [digitsG, Option.some.injEq, Prod.mk.injEq] at h
    obtain ⟨rfl, rfl⟩ := h
    exact ⟨t, rfl, hs⟩
  | k + 1, m, s, t, n, s', hs, h => by
    rw [digitsG] at h
    cases e : nx s with
    | none => rw [e] at h; simp at h
    | some v =>
      obtain ⟨b, s1⟩ := v
      obtain ⟨t1, h1, h2⟩ := hR s t b s1 hs e
      rw [e] at h
      simp only at h
      rw [digitsG, h1]
      simp only
      exact digits_sim k (2 * m + b) s1 t1 n s' h2 h
theorem num_sim (s : σ) (t : τ) (n : Nat) (s' : σ) (hs : R s t) (h : numG nx s = some (n, s')) : ∃ t', numG ny t = some (n, t') ∧ R s' t' := by
  unfold numG at h
  cases e : zerosG nx 31 0 s with
  | none => rw [e] at h; simp at h
  | some v =>
    obtain ⟨z, s1⟩ := v
    obtain ⟨t1, h1, h2⟩ := zeros_sim R hR 31 0 s t z s1 hs e
    rw [e] at h
    simp only at h
    cases e2 : digitsG nx z 1 s1 with
    | none => rw [e2] at h; simp at h
    | some v2 =>
      obtain ⟨m, s2⟩ := v2
      obtain ⟨t2, h3, h4⟩ := digits_sim R hR z 1 s1 t1 m s2 h2 e2
      rw [e2] at h
      simp only at h
      unfold numG
      rw [h1]
      simp only
      rw [h3]
      simp only
      by_cases hm : m ≤ 1073741824
      · rw [if_pos hm] at h
        rw [if_pos hm]
        simp only [Option.some.injEq, Prod.mk.injEq] at h
        obtain ⟨rfl, rfl⟩ := h
        exact ⟨t2, rfl, h4⟩
      · rw [if_neg hm] at h
        simp at h
theorem told_sim (s : σ) (t : τ) (n : Nat) (s' : σ) (hs : R s t) (h : toldG nx s = some (n, s')) : ∃ t', toldG ny t = some (n, t') ∧ R s' t' := by
  unfold toldG at h
  cases e : numG nx s with
  | none => rw [e] at h; simp at h
  | some v =>
    obtain ⟨m, s1⟩ := v
    obtain ⟨t1, h1, h2⟩ := num_sim R hR s t m s1 hs e
    rw [e] at h
    simp only at h
    unfold toldG
    rw [h1]
    simp only
    by_cases hm : m ≤ 256
    · rw [if_pos hm] at h
      rw [if_pos hm]
      simp only [Option.some.injEq, Prod.mk.injEq] at h
      obtain ⟨rfl, rfl⟩ := h
      exact ⟨t1, rfl, h2⟩
    · rw [if_neg hm] at h
      simp at h
theorem places_sim (size : Nat) : ∀ (f : Nat) (acc : List UInt8) (s : σ) (t : τ) (l : List UInt8), R s t → placesG nx size f acc s = some l → placesG ny size f acc t = some l
  | 0, _, _, _, _, _, h => h
  | f + 1, acc, s, t, l, hs, h => by
    rw [placesG] at h
    rw [placesG]
    by_cases hl : acc.length < size
    · rw [if_pos hl] at h
      rw [if_pos hl]
      cases e : toldG nx s with
      | none => rw [e] at h; simp at h
      | some v =>
        obtain ⟨n, s1⟩ := v
        obtain ⟨t1, h1, h2⟩ := told_sim R hR s t n s1 hs e
        rw [e] at h
        rw [h1]
        simp only at h ⊢
        by_cases hn : n = 1
        · rw [if_pos hn] at h
          rw [if_pos hn]
          cases e2 : toldG nx s1 with
          | none => rw [e2] at h; simp at h
          | some v2 =>
            obtain ⟨k, s2⟩ := v2
            obtain ⟨t2, h3, h4⟩ := told_sim R hR s1 t1 k s2 h2 e2
            rw [e2] at h
            rw [h3]
            simp only at h ⊢
            exact places_sim size f _ s2 t2 l h4 h
        · rw [if_neg hn] at h
          rw [if_neg hn]
          exact places_sim size f _ s1 t1 l h2 h
    · rw [if_neg hl] at h
      rw [if_neg hl]
      exact h
end

/-! ### A list of bits -/
def nxL : List Nat → Option (Nat × List Nat)
  | [] => none
  | b :: r => some (b, r)

/-- The j lowest binary digits, the highest first. -/
def lowN : Nat → Nat → List Nat
  | 0, _ => []
  | j + 1, n => n / 2 ^ j % 2 :: lowN j n
/-- One number as bits. -/
def gbits (n : Nat) : List Nat := List.replicate (dig n - 1) 0 ++ lowN (dig n) n
def gbitsL (l : List Nat) : List Nat := (l.map gbits).flatten

theorem lowN_length : ∀ j n, (lowN j n).length = j
  | 0, _ => rfl
  | j + 1, n => by simp [lowN, lowN_length j n]

theorem lowN_bits : ∀ j n, ∀ d ∈ lowN j n, d < 2
  | 0, _, d, h => by simp [lowN] at h
  | j + 1, n, d, h => by
    rcases List.mem_cons.1 h with rfl | h
    · exact Nat.mod_lt _ (by omega)
    · exact lowN_bits j n d h

theorem gbits_bits (n : Nat) : ∀ d ∈ gbits n, d < 2 := by
  intro d hd
  rcases List.mem_append.1 hd with hd | hd
  · have := List.eq_of_mem_replicate hd
    omega
  · exact lowN_bits _ _ d hd

theorem gbitsL_bits (l : List Nat) : ∀ d ∈ gbitsL l, d < 2 := by
  intro d hd
  unfold gbitsL at hd
  obtain ⟨m, hm, hd⟩ := List.mem_flatten.1 hd
  obtain ⟨n, _, rfl⟩ := List.mem_map.1 hm
  exact gbits_bits n d hd

theorem zeros_list : ∀ (k f z : Nat) (l : List Nat), k < f → zerosG nxL f z (List.replicate k 0 ++ 1 :: l) = some (z + k, l)
  | 0, f + 1, z, l, _ => rfl
  | k + 1, f + 1, z, l, h => by
    rw [List.replicate_succ, List.cons_append, zerosG]
    simp only [nxL]
    rw [if_neg (by omega), zeros_list k f (z + 1) l (by omega)]
    simp
    omega

theorem digits_list : ∀ (k m n : Nat) (l : List Nat), digitsG nxL k m (lowN k n ++ l) = some (m * 2 ^ k + n % 2 ^ k, l)
  | 0, m, n, l => by simp [digitsG, lowN, Nat.mod_one]
  | k + 1, m, n, l => by
    rw [lowN, List.cons_append, digitsG]
    simp only [nxL]
    rw [digits_list k (2 * m + n / 2 ^ k % 2) n l]
    have e : n % 2 ^ (k + 1) = n % 2 ^ k + 2 ^ k * (n / 2 ^ k % 2) := by rw [Nat.pow_succ, Nat.mod_mul]
    have e2 : (2 * m + n / 2 ^ k % 2) * 2 ^ k = m * 2 ^ (k + 1) + 2 ^ k * (n / 2 ^ k % 2) := by
      rw [Nat.add_mul, Nat.pow_succ, Nat.mul_comm 2 m, Nat.mul_assoc, Nat.mul_comm 2 (2 ^ k), Nat.mul_comm (n / 2 ^ k % 2)]
    rw [e, e2]
    simp
    omega

theorem num_list {n : Nat} (h0 : 1 ≤ n) (h1 : n ≤ 1073741824) (l : List Nat) : numG nxL (gbits n ++ l) = some (n, l) := by
  obtain ⟨d1, d2, d3, d4⟩ := dig_bounds h0 h1
  obtain ⟨d, hd⟩ : ∃ d, dig n = d + 1 := ⟨dig n - 1, by omega⟩
  rw [hd, Nat.add_sub_cancel] at d3
  rw [hd] at d4
  have hq : n / 2 ^ d = 1 := by
    have hp : 0 < 2 ^ d := Nat.pow_pos (by omega)
    rw [Nat.pow_succ, Nat.mul_comm] at d4
    have a := (Nat.le_div_iff_mul_le hp).2 (by rw [Nat.one_mul]; exact d3 : 1 * 2 ^ d ≤ n)
    have b := (Nat.div_lt_iff_lt_mul hp).2 d4
    omega
  have e : gbits n ++ l = List.replicate d 0 ++ 1 :: (lowN d n ++ l) := by
    unfold gbits
    rw [hd, Nat.add_sub_cancel, lowN, hq, List.append_assoc]
    rfl
  unfold numG
  rw [e, zeros_list d 31 0 _ (by omega)]
  simp only [Nat.zero_add]
  rw [digits_list]
  have e2 : 1 * 2 ^ d + n % 2 ^ d = n := by
    have := Nat.div_add_mod n (2 ^ d)
    rw [hq] at this
    omega
  simp only [e2]
  rw [if_pos h1]

theorem told_list {n : Nat} (h0 : 1 ≤ n) (h1 : n ≤ 256) (l : List Nat) : toldG nxL (gbits n ++ l) = some (n, l) := by
  unfold toldG
  rw [num_list h0 (by omega)]
  simp only
  rw [if_pos h1]

/-! ### The telling -/
/-- With so many zeros met. -/
def tellA : Nat → List UInt8 → List Nat
  | 0, [] => []
  | k + 1, [] => [1, k + 1]
  | k, c :: r => if c = 0 then tellA (k + 1) r else (if k = 0 then [] else [1, k]) ++ (c.toNat + 1) :: tellA 0 r
def tell (x : List UInt8) : List Nat := tellA 0 x

theorem gbitsL_cons (n : Nat) (l : List Nat) : gbitsL (n :: l) = gbits n ++ gbitsL l := by simp [gbitsL]
theorem gbitsL_nil : gbitsL [] = [] := rfl
theorem gbitsL_append (a b : List Nat) : gbitsL (a ++ b) = gbitsL a ++ gbitsL b := by simp [gbitsL]

theorem tell_range : ∀ (x : List UInt8) (k : Nat), k + x.length ≤ 256 → ∀ n ∈ tellA k x, 1 ≤ n ∧ n ≤ 256
  | [], 0, _, n, hn => by simp [tellA] at hn
  | [], k + 1, h, n, hn => by
    simp [tellA] at hn
    simp at h
    omega
  | c :: r, k, h, n, hn => by
    rw [List.length_cons] at h
    rw [tellA] at hn
    · by_cases hc : c = 0
      · rw [if_pos hc] at hn
        exact tell_range r (k + 1) (by omega) n hn
      · rw [if_neg hc] at hn
        have hlt := c.toNat_lt
        rcases List.mem_append.1 hn with hn | hn
        · by_cases hk : k = 0
          · rw [if_pos hk] at hn
            simp at hn
          · rw [if_neg hk] at hn
            simp at hn
            omega
        · rcases List.mem_cons.1 hn with rfl | hn
          · omega
          · exact tell_range r 0 (by omega) n hn

theorem tell_length : ∀ (x : List UInt8) (k : Nat), (tellA k x).length ≤ 2 * (k + x.length)
  | [], 0 => by simp [tellA]
  | [], k + 1 => by
    simp [tellA]
    omega
  | c :: r, k => by
    rw [tellA]
    by_cases hc : c = 0
    · rw [if_pos hc, List.length_cons]
      have := tell_length r (k + 1)
      omega
    · rw [if_neg hc, List.length_append, List.length_cons, List.length_cons]
      have := tell_length r 0
      by_cases hk : k = 0
      · rw [if_pos hk]
        simp
        omega
      · rw [if_neg hk]
        simp
        omega

theorem ne_one {c : UInt8} (h : c ≠ 0) : c.toNat + 1 ≠ 1 := by
  intro e
  apply h
  have : c.toNat = 0 := by omega
  exact UInt8.toNat_inj.1 this

theorem places_told (size : Nat) (l : List Nat) : ∀ (x : List UInt8) (k f : Nat) (acc : List UInt8), acc.length + k + x.length = size → k + x.length ≤ f → k + x.length ≤ 256 → placesG nxL size f acc (gbitsL (tellA k x) ++ l) = some (acc ++ List.replicate k 0 ++ x)
  | [], 0, f, acc, h, _, _ => by
    simp at h
    cases f with
    | zero => rw [placesG, if_neg (by omega)]; simp
    | succ f => rw [placesG, if_neg (by omega)]; simp
  | [], k + 1, f, acc, h, hf, h256 => by
    simp at h hf h256
    obtain ⟨f, rfl⟩ : ∃ g, f = g + 1 := ⟨f - 1, by omega⟩
    rw [tellA, gbitsL_cons, gbitsL_cons, gbitsL_nil, List.append_nil, List.append_assoc, placesG, if_pos (by omega), told_list (by omega) (by omega)]
    simp only
    rw [if_pos trivial, told_list (by omega) (by omega)]
    simp only
    cases f with
    | zero => rw [placesG, if_neg (by simp; omega)]; simp
    | succ f => rw [placesG, if_neg (by simp; omega)]; simp
  | c :: r, k, f, acc, h, hf, h256 => by
    rw [List.length_cons] at h hf h256
    rw [tellA]
    by_cases hc : c = 0
    · rw [if_pos hc, places_told size l r (k + 1) f acc (by omega) (by omega) (by omega), List.replicate_succ', hc]
      simp
    · rw [if_neg hc]
      have hlt := c.toNat_lt
      by_cases hk : k = 0
      · rw [if_pos hk, List.nil_append, gbitsL_cons, List.append_assoc]
        obtain ⟨f, rfl⟩ : ∃ g, f = g + 1 := ⟨f - 1, by omega⟩
        rw [placesG, if_pos (by omega), told_list (by omega) (by omega)]
        simp only
        rw [if_neg (ne_one hc), Nat.add_sub_cancel, places_told size l r 0 f _ (by simp; omega) (by omega) (by omega), hk]
        simp
      · rw [if_neg hk]
        obtain ⟨f, rfl⟩ : ∃ g, f = g + 1 + 1 := ⟨f - 2, by omega⟩
        rw [List.cons_append, List.cons_append, List.nil_append, gbitsL_cons, gbitsL_cons, gbitsL_cons, List.append_assoc, List.append_assoc, List.append_assoc, placesG, if_pos (by omega), told_list (by omega) (by omega)]
        simp only
        rw [if_pos trivial, told_list (by omega) (by omega)]
        simp only
        rw [placesG, if_pos (by simp; omega), told_list (by omega) (by omega)]
        simp only
        rw [if_neg (ne_one hc), Nat.add_sub_cancel, places_told size l r 0 f _ (by simp; omega) (by omega) (by omega)]
        simp
end Go.Proofs.YtkiindkoiomieaaGreatDoor.Co
end

section
/-
  Plain mathematics of P7: bits as bytes; where a bit of a number stands. Nothing of the program.
-/
namespace Go.Proofs.YtkiindkoiomieaaGreatDoor.Co

/-! ### Bits as bytes -/
def bytesN : Nat → List Nat → List UInt8
  | 0, _ => []
  | k + 1, l => UInt8.ofNat (win 8 l) :: bytesN k (l.drop 8)
/-- Eight to a byte, zeros at the end. -/
def bytesF (l : List Nat) : List UInt8 := bytesN ((l.length + 7) / 8) l
def bitsF (x : List UInt8) : List Nat := (x.map fun c => lowN 8 c.toNat).flatten

theorem bytesN_length : ∀ k l, (bytesN k l).length = k
  | 0, _ => rfl
  | k + 1, l => by rw [bytesN, List.length_cons, bytesN_length k]
theorem bytesF_length (l : List Nat) : (bytesF l).length = (l.length + 7) / 8 := bytesN_length _ _

theorem bytesN_get : ∀ (k : Nat) (l : List Nat) (i : Nat), i < k → (bytesN k l)[i]? = some (UInt8.ofNat (win 8 (l.drop (8 * i))))
  | 0, _, _, h => by omega
  | k + 1, l, 0, _ => by simp [bytesN]
  | k + 1, l, i + 1, h => by
    rw [bytesN, List.getElem?_cons_succ, bytesN_get k (l.drop 8) i (by omega), List.drop_drop]
    congr 4
    omega

theorem lowN_mod : ∀ (j n : Nat), lowN j (n % 2 ^ j) = lowN j n := by
  have key : ∀ (j m n : Nat), j ≤ m → lowN j (n % 2 ^ m) = lowN j n := by
    intro j
    induction j with
    | zero => intros; rfl
    | succ j ih =>
      intro m n h
      rw [lowN, lowN, ih m n (by omega)]
      congr 1
      obtain ⟨k, rfl⟩ : ∃ k, m = j + (k + 1) := ⟨m - j - 1, by omega⟩
      rw [Nat.pow_add, Nat.mod_mul_right_div_self, Nat.pow_succ, Nat.mod_mul_left_mod]
  exact fun j n => key j j n (Nat.le_refl _)

theorem lowN_win : ∀ (k : Nat) (l : List Nat), (∀ d ∈ l, d < 2) → lowN k (win k l) = l.take k ++ List.replicate (k - l.length) 0
  | 0, l, _ => by simp [lowN]
  | k + 1, [], h => by
    have ih := lowN_win k [] h
    rw [win_nil] at ih
    rw [win, lowN, ih]
    simp [List.replicate_succ]
  | k + 1, d :: r, h => by
    have hr : ∀ x ∈ r, x < 2 := fun x hx => h x (by simp [hx])
    have ih := lowN_win k r hr
    have hd := h d (by simp)
    have hw := win_lt k r hr
    rw [win, lowN, ← lowN_mod k (d * 2 ^ k + win k r), Nat.mul_comm d, Nat.mul_add_mod, Nat.mod_eq_of_lt hw, ih, Nat.mul_add_div (Nat.pow_pos (by omega)), Nat.div_eq_of_lt hw, Nat.add_zero, Nat.mod_eq_of_lt hd]
    simp

theorem win8_lt (l : List Nat) (h : ∀ d ∈ l, d < 2) : win 8 l < 256 := win_lt 8 l h

theorem bits_bytesN : ∀ (k : Nat) (l : List Nat), (∀ d ∈ l, d < 2) → bitsF (bytesN k l) = l.take (8 * k) ++ List.replicate (8 * k - l.length) 0
  | 0, l, _ => by simp [bytesN, bitsF]
  | k + 1, l, h => by
    have hd : ∀ x ∈ l.drop 8, x < 2 := fun x hx => h x (List.mem_of_mem_drop hx)
    have ih := bits_bytesN k (l.drop 8) hd
    unfold bitsF at ih ⊢
    have e1 : (UInt8.ofNat (win 8 l)).toNat = win 8 l := by
      have := win8_lt l h
      simp
      omega
    rw [bytesN, List.map_cons, List.flatten_cons, ih, e1, lowN_win 8 l h]
    rcases Nat.lt_or_ge l.length 8 with h8 | h8
    · have a : l.drop 8 = [] := List.drop_eq_nil_iff.2 (by omega)
      rw [a, List.take_of_length_le (by omega : l.length ≤ 8), List.take_of_length_le (by omega : l.length ≤ 8 * (k + 1))]
      simp
      omega
    · have a : 8 - l.length = 0 := by omega
      have b : 8 * (k + 1) = 8 + 8 * k := by omega
      rw [a, List.replicate_zero, List.append_nil, b, List.take_add, List.append_assoc, List.length_drop]
      congr 2
      congr 1
      omega

theorem bits_bytes (l : List Nat) (h : ∀ d ∈ l, d < 2) : ∃ z, bitsF (bytesF l) = l ++ List.replicate z 0 := by
  refine ⟨8 * ((l.length + 7) / 8) - l.length, ?_⟩
  unfold bytesF
  rw [bits_bytesN _ l h, List.take_of_length_le (by omega)]

theorem bitsF_bits (x : List UInt8) : ∀ d ∈ bitsF x, d < 2 := by
  intro d hd
  unfold bitsF at hd
  obtain ⟨m, hm, hd⟩ := List.mem_flatten.1 hd
  obtain ⟨c, _, rfl⟩ := List.mem_map.1 hm
  exact lowN_bits _ _ d hd

theorem bitsF_length : ∀ x : List UInt8, (bitsF x).length = 8 * x.length
  | [] => rfl
  | c :: r => by
    have := bitsF_length r
    unfold bitsF at *
    rw [List.map_cons, List.flatten_cons, List.length_append, this, lowN_length, List.length_cons]
    omega

theorem bitsF_snoc (x : List UInt8) (c : UInt8) : bitsF (x ++ [c]) = bitsF x ++ lowN 8 c.toNat := by simp [bitsF]

/-- Of digits ahead of the end. -/
theorem win_short : ∀ (k : Nat) (l : List Nat), l.length ≤ k → win k l = 2 ^ (k - l.length) * win l.length l
  | 0, l, h => by
    have : l = [] := List.length_eq_zero_iff.1 (by omega)
    subst this
    rfl
  | k + 1, [], _ => by simp [win]
  | k + 1, d :: r, h => by
    rw [List.length_cons] at h
    have ih := win_short k r (by omega)
    rw [List.length_cons, win, win, ih, Nat.mul_add, Nat.add_sub_add_right, Nat.mul_left_comm, ← Nat.pow_add]
    congr 3
    omega

theorem win_put : ∀ (k : Nat) (l : List Nat) (b : Nat), l.length < k → win k (l ++ [b]) = win k l + b * 2 ^ (k - 1 - l.length)
  | 0, _, _, h => by omega
  | k + 1, [], b, _ => by simp [win, win_nil]
  | k + 1, d :: r, b, h => by
    rw [List.length_cons] at h
    have ih := win_put k r b (by omega)
    rw [List.cons_append, win, ih, win, List.length_cons, Nat.add_assoc]
    congr 4
    omega

theorem win_or (l : List Nat) (b : Nat) (hb : b < 2) (h : l.length < 8) : win 8 (l ++ [b]) = win 8 l ||| b * 2 ^ (7 - l.length) := by
  rw [win_put 8 l b h, win_short 8 l (by omega)]
  have e : 8 - l.length = (7 - l.length) + 1 := by omega
  have hlt : b * 2 ^ (7 - l.length) < 2 ^ (8 - l.length) := by
    rw [e, Nat.pow_succ, Nat.mul_comm]
    exact Nat.mul_lt_mul_of_pos_left hb (Nat.pow_pos (by omega))
  exact Nat.two_pow_add_eq_or_of_lt hlt _

theorem win_take (l : List Nat) : ∀ (k n : Nat), k ≤ n → win k (l.take n) = win k l := by
  induction l with
  | nil => intros; simp
  | cons d r ih =>
    intro k n h
    cases k with
    | zero => rfl
    | succ k =>
      obtain ⟨m, rfl⟩ : ∃ m, n = m + 1 := ⟨n - 1, by omega⟩
      rw [List.take_succ_cons, win, win, ih k m (by omega)]

theorem bytes_step (N : Nat) (l : List Nat) (i b : Nat) (hi : l[i]? = some b) (hb : b < 2) (hN : i / 8 < N) :
    bytesN N (l.take (i + 1)) = (bytesN N (l.take i)).set (i / 8) (UInt8.ofNat (win 8 ((l.take i).drop (8 * (i / 8))) ||| b * 2 ^ (7 - i % 8))) := by
  have hlen : i < l.length := by
    rcases Nat.lt_or_ge i l.length with h | h
    · exact h
    · rw [List.getElem?_eq_none h] at hi
      simp at hi
  apply List.ext_getElem?
  intro k
  by_cases hk : k < N
  · rw [bytesN_get N _ k hk]
    by_cases he : k = i / 8
    · subst he
      rw [List.getElem?_set_self (by rw [bytesN_length]; exact hN)]
      congr 2
      have e1 : (l.take (i + 1)).drop (8 * (i / 8)) = (l.take i).drop (8 * (i / 8)) ++ [b] := by
        rw [List.take_add_one, hi, List.drop_append_of_le_length (by rw [List.length_take]; omega)]
        rfl
      have e2 : ((l.take i).drop (8 * (i / 8))).length = i % 8 := by
        rw [List.length_drop, List.length_take]
        omega
      rw [e1, win_or _ b hb (by omega), e2]
    · rw [List.getElem?_set_ne (by omega), bytesN_get N _ k hk]
      congr 2
      rcases Nat.lt_or_ge k (i / 8) with h | h
      · rw [List.drop_take, List.drop_take, win_take _ 8 _ (by omega), win_take _ 8 _ (by omega)]
      · rw [List.drop_eq_nil_iff.2 (by rw [List.length_take]; omega), List.drop_eq_nil_iff.2 (by rw [List.length_take]; omega)]
  · rw [List.getElem?_eq_none (by rw [bytesN_length]; omega), List.getElem?_eq_none (by rw [List.length_set, bytesN_length]; omega)]

theorem bytesN_nil : ∀ N, bytesN N [] = List.replicate N 0
  | 0 => rfl
  | N + 1 => by
    rw [bytesN, List.drop_nil, bytesN_nil N, win_nil, List.replicate_succ]
    rfl

/-! ### Where a bit of a number stands -/
theorem dig_eq {a k : Nat} (h1 : 2 ^ k ≤ a) (h2 : a < 2 ^ (k + 1)) (hk : k ≤ 62) : dig a = k + 1 := by
  have hp : (1 : Nat) ≤ 2 ^ k := Nat.pow_pos (by omega)
  have h64 : a < 2 ^ 64 := Nat.lt_of_lt_of_le h2 (Nat.pow_le_pow_right (by omega) (by omega))
  obtain ⟨a1, b1, c1⟩ := Lib.bitLenAux_bounds 64 a (by omega) (by omega)
  have e : dig a = Lib.bitLenAux 64 a := rfl
  rw [e]
  generalize Lib.bitLenAux 64 a = d at *
  rcases Nat.lt_or_ge d (k + 1) with h | h
  · have := Nat.pow_le_pow_right (n := 2) (by omega) (show d ≤ k by omega)
    omega
  · rcases Nat.lt_or_ge (k + 1) d with h' | h'
    · have := Nat.pow_le_pow_right (n := 2) (by omega) (show k + 1 ≤ d - 1 by omega)
      omega
    · omega

theorem stq_zero {j : Nat} (hj : j ≤ 60) : stq (2 ^ j) 0 = 2 ^ (j + 1) := by
  have e : 2 * 2 ^ j + 0 = 2 ^ (j + 1) := by rw [Nat.pow_succ]; omega
  have hd : dig (2 ^ (j + 1)) = j + 2 := dig_eq (Nat.le_refl _) (Nat.pow_lt_pow_right (by omega) (by omega)) (by omega)
  unfold stq whole numAt
  rw [e, hd, show j + 2 - 1 = j + 1 from rfl, Nat.sub_self]
  have h0 : dig 0 = 0 := by decide
  rw [h0, if_neg (by simp)]

theorem stq_one {j : Nat} (hj : j ≤ 60) : stq (2 ^ j) 1 = if j = 0 then 1 else 2 ^ (j + 1) + 1 := by
  have hp : (1 : Nat) ≤ 2 ^ j := Nat.pow_pos (by omega)
  have e : 2 * 2 ^ j + 1 = 2 ^ (j + 1) + 1 := by rw [Nat.pow_succ]; omega
  have hd : dig (2 ^ (j + 1) + 1) = j + 2 := dig_eq (Nat.le_succ _) (by rw [Nat.pow_succ 2 (j + 1), Nat.pow_succ]; omega) (by omega)
  unfold stq whole numAt
  rw [e, hd, show j + 2 - 1 = j + 1 from rfl, Nat.add_sub_cancel_left]
  have h1 : dig 1 = 1 := by decide
  rw [h1]
  by_cases h : j = 0
  · subst h
    rfl
  · rw [if_neg (by simp; omega), if_neg h]

theorem stq_digit {z i v b : Nat} (hz : z ≤ 30) (hi : i < z) (hv : 2 ^ i ≤ v) (hv2 : v < 2 ^ (i + 1)) (hb : b < 2) : stq (2 ^ (z + 1 + i) + v) b = if i + 1 = z then 1 else 2 ^ (z + 1 + (i + 1)) + (2 * v + b) := by
  have e : 2 * (2 ^ (z + 1 + i) + v) + b = 2 ^ (z + 1 + (i + 1)) + (2 * v + b) := by rw [show z + 1 + (i + 1) = z + 1 + i + 1 from rfl, Nat.pow_succ]; omega
  have hw1 : 2 ^ (i + 1) ≤ 2 * v + b := by rw [Nat.pow_succ]; omega
  have hw2 : 2 * v + b < 2 ^ (i + 1 + 1) := by rw [Nat.pow_succ]; omega
  have hle : 2 ^ (i + 1 + 1) ≤ 2 ^ (z + 1 + (i + 1)) := Nat.pow_le_pow_right (by omega) (by omega)
  have hd : dig (2 ^ (z + 1 + (i + 1)) + (2 * v + b)) = z + 1 + (i + 1) + 1 := dig_eq (by omega) (by rw [Nat.pow_succ]; omega) (by omega)
  have hd2 : dig (2 * v + b) = i + 1 + 1 := dig_eq hw1 hw2 (by omega)
  unfold stq whole numAt
  rw [e, hd, Nat.add_sub_cancel, Nat.add_sub_cancel_left, hd2]
  by_cases h : i + 1 = z
  · rw [if_pos (by simp; omega), if_pos h]
  · rw [if_neg (by simp; omega), if_neg h]
end Go.Proofs.YtkiindkoiomieaaGreatDoor.Co
end

section
/-
  Plain mathematics of P7: where the bits of a number stand, one by one. Nothing of the program.
-/
namespace Go.Proofs.YtkiindkoiomieaaGreatDoor.Co

/-- Ahead of the last r digits of a number with z zeros. -/
def qd (z n r : Nat) : Nat := if r = z + 1 then 2 ^ z else if r = 0 then 1 else 2 ^ (2 * z + 1 - r) + n / 2 ^ r

theorem div_two (n q : Nat) : n / 2 ^ q = 2 * (n / 2 ^ (q + 1)) + n / 2 ^ q % 2 := by
  rw [Nat.pow_succ, ← Nat.div_div_eq_div_mul]
  omega

theorem div_bounds {z n r : Nat} (h1 : 2 ^ z ≤ n) (h2 : n < 2 ^ (z + 1)) (hr : r ≤ z) : 2 ^ (z - r) ≤ n / 2 ^ r ∧ n / 2 ^ r < 2 ^ (z - r + 1) := by
  have hp : 0 < 2 ^ r := Nat.pow_pos (by omega)
  refine ⟨(Nat.le_div_iff_mul_le hp).2 ?_, (Nat.div_lt_iff_lt_mul hp).2 ?_⟩
  · rw [← Nat.pow_add, Nat.sub_add_cancel hr]
    exact h1
  · rw [← Nat.pow_add, show z - r + 1 + r = z + 1 by omega]
    exact h2

theorem qd_step {z n q : Nat} (hz : z ≤ 30) (h1 : 2 ^ z ≤ n) (h2 : n < 2 ^ (z + 1)) (hq : q ≤ z) : stq (qd z n (q + 1)) (n / 2 ^ q % 2) = qd z n q := by
  by_cases e : q = z
  · subst e
    have hb := div_bounds h1 h2 (Nat.le_refl q)
    rw [Nat.sub_self] at hb
    have hd : n / 2 ^ q = 1 := by omega
    unfold qd
    rw [if_pos rfl, hd, if_neg (by omega), show 1 % 2 = 1 from rfl, stq_one (by omega)]
    by_cases h0 : q = 0
    · rw [if_pos h0, if_pos h0]
    · rw [if_neg h0, if_neg h0, show 2 * q + 1 - q = q + 1 by omega]
  · have hb := div_bounds h1 h2 (show q + 1 ≤ z by omega)
    have hdv := div_two n q
    have hs := stq_digit (z := z) (i := z - (q + 1)) (v := n / 2 ^ (q + 1)) (b := n / 2 ^ q % 2) hz (by omega) hb.1 hb.2 (Nat.mod_lt _ (by omega))
    unfold qd
    rw [if_neg (by omega), if_neg (by omega), if_neg (by omega), show 2 * z + 1 - (q + 1) = z + 1 + (z - (q + 1)) by omega, hs]
    by_cases h0 : q = 0
    · rw [if_pos (by omega), if_pos h0]
    · rw [if_neg (by omega), if_neg h0, ← hdv]
      congr 2
      omega

theorem pow_le_60 {k : Nat} (h : k ≤ 60) : 2 ^ k ≤ 1152921504606846976 := by
  have := Nat.pow_le_pow_right (n := 2) (by omega) h
  have e : (2 : Nat) ^ 60 = 1152921504606846976 := by decide
  omega

theorem qd_bounds {z n r : Nat} (hz : z ≤ 30) (h2 : n < 2 ^ (z + 1)) : 1 ≤ qd z n r ∧ qd z n r < 2305843009213693952 := by
  have hp : ∀ k, 1 ≤ 2 ^ k := fun k => Nat.pow_pos (by omega)
  unfold qd
  by_cases e : r = z + 1
  · rw [if_pos e]
    exact ⟨hp z, by have := pow_le_60 (k := z) (by omega); omega⟩
  · rw [if_neg e]
    by_cases e0 : r = 0
    · rw [if_pos e0]
      omega
    · rw [if_neg e0]
      have a := pow_le_60 (k := 2 * z + 1 - r) (by omega)
      have b := pow_le_60 (k := z + 1) (by omega)
      have c := Nat.div_le_self n (2 ^ r)
      have d := hp (2 * z + 1 - r)
      generalize n / 2 ^ r = x at *
      omega

theorem qd_zero (z n : Nat) : qd z n 0 = 1 := by
  unfold qd
  rw [if_neg (by omega), if_pos rfl]

/-- Behind i digits of z, with v read. -/
def qr (z i v : Nat) : Nat := if i = z then 1 else 2 ^ (z + 1 + i) + v

theorem qr_first {z : Nat} (hz : z ≤ 30) : stq (2 ^ z) 1 = qr z 0 1 := by
  rw [stq_one (by omega)]
  unfold qr
  by_cases h : z = 0
  · rw [if_pos h, if_pos h.symm]
  · rw [if_neg h, if_neg (fun e => h e.symm)]

theorem qr_step {z i v b : Nat} (hz : z ≤ 30) (hi : i < z) (h1 : 2 ^ i ≤ v) (h2 : v < 2 ^ (i + 1)) (hb : b < 2) : stq (qr z i v) b = qr z (i + 1) (2 * v + b) := by
  unfold qr
  rw [if_neg (by omega), stq_digit hz hi h1 h2 hb]

theorem qr_bounds {z i v : Nat} (hz : z ≤ 30) (hi : i ≤ z) (h2 : v < 2 ^ (i + 1)) : 1 ≤ qr z i v ∧ qr z i v < 2305843009213693952 := by
  unfold qr
  by_cases e : i = z
  · rw [if_pos e]
    omega
  · rw [if_neg e]
    have a := pow_le_60 (k := z + 1 + i) (by omega)
    have b := pow_le_60 (k := i + 1) (by omega)
    have c : 1 ≤ 2 ^ (z + 1 + i) := Nat.pow_pos (by omega)
    omega

theorem qz_bounds {j : Nat} (hj : j ≤ 31) : 1 ≤ 2 ^ j ∧ 2 ^ j < 2305843009213693952 := ⟨Nat.pow_pos (by omega), by have := pow_le_60 (k := j) (by omega); omega⟩

theorem gbits_split {n d : Nat} (h : dig n = d) : gbits n = List.replicate (d - 1) 0 ++ lowN d n := by rw [gbits, h]

theorem gbits_length {n : Nat} (h0 : 1 ≤ n) (h1 : n ≤ 1073741824) : (gbits n).length ≤ 61 := by
  have := dig_bounds h0 h1
  simp [gbits, lowN_length]
  omega
theorem gbits_length256 {n : Nat} (h0 : 1 ≤ n) (h1 : n ≤ 256) : (gbits n).length ≤ 17 := by
  obtain ⟨a, b, c, d⟩ := dig_bounds h0 (by omega)
  have : dig n ≤ 9 := by
    rcases Nat.lt_or_ge 9 (dig n) with h | h
    · have := Nat.pow_le_pow_right (n := 2) (by omega) (show 9 ≤ dig n - 1 by omega)
      have e : (2 : Nat) ^ 9 = 512 := by decide
      omega
    · exact h
  simp [gbits, lowN_length]
  omega
theorem gbitsL_length : ∀ l : List Nat, (∀ n ∈ l, 1 ≤ n ∧ n ≤ 256) → (gbitsL l).length ≤ 17 * l.length
  | [], _ => by simp [gbitsL]
  | n :: l, h => by
    have h1 := gbits_length256 (h n (by simp)).1 (h n (by simp)).2
    have h2 := gbitsL_length l fun m hm => h m (by simp [hm])
    rw [gbitsL_cons, List.length_append, List.length_cons]
    omega
theorem gbitsL_snoc (l : List Nat) (n : Nat) : gbitsL (l ++ [n]) = gbitsL l ++ gbits n := by simp [gbitsL]
end Go.Proofs.YtkiindkoiomieaaGreatDoor.Co
end

