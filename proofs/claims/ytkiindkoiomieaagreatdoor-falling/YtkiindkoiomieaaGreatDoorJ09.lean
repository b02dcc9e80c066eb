import Derived.Test.YtkiindkoiomieaaGreatDoorJ07
import Derived.Test.YtkiindkoiomieaaGreatDoorJ05
import Derived.Test.YtkiindkoiomieaaGreatDoorJ06
section
/-
  Plain mathematics of P7: bits written by how likely they are, and read. Nothing of the program.
-/
namespace Go.Proofs.YtkiindkoiomieaaGreatDoor.Co

/-! ### Digits and the numbers that they begin -/
/-- The number of the first k digits; zeros behind the end. -/
def win : Nat → List Nat → Nat
  | 0, _ => 0
  | _ + 1, [] => 0
  | k + 1, d :: r => d * 2 ^ k + win k r

theorem win_nil : ∀ k, win k [] = 0
  | 0 => rfl
  | _ + 1 => rfl

theorem win_zeros : ∀ k n, win k (List.replicate n 0) = 0
  | 0, _ => rfl
  | k + 1, 0 => rfl
  | k + 1, n + 1 => by rw [List.replicate_succ, win, win_zeros k n]; omega

theorem win_lt : ∀ k ds, (∀ d ∈ ds, d < 2) → win k ds < 2 ^ k
  | 0, _, _ => by simp [win]
  | k + 1, [], _ => by rw [win]; exact Nat.pow_pos (by omega)
  | k + 1, d :: r, h => by
    have h1 := win_lt k r fun x hx => h x (by simp [hx])
    have h2 := h d (by simp)
    have e : 2 ^ (k + 1) = 2 * 2 ^ k := by rw [Nat.pow_succ, Nat.mul_comm]
    rw [win, e]
    rcases (show d = 0 ∨ d = 1 by omega) with rfl | rfl <;> omega

/-- One more digit. -/
theorem win_snoc : ∀ k ds, win (k + 1) ds = 2 * win k ds + (ds.drop k).headD 0
  | 0, [] => rfl
  | 0, d :: r => by simp [win]
  | k + 1, [] => by simp [win]
  | k + 1, d :: r => by
    rw [win, win_snoc k r, win, List.drop_succ_cons]
    have e : d * 2 ^ (k + 1) = 2 * (d * 2 ^ k) := by rw [Nat.pow_succ, ← Nat.mul_assoc, Nat.mul_comm]
    omega

/-! ### The part of the numbers that is left -/
abbrev Sp := Nat × Nat
/-- The first digit. -/
def top (n : Nat) : Nat := n / 2147483648
/-- Both begin with the same digit. -/
def settled (s : Sp) : Bool := top s.1 == top s.2
/-- The first digit left out. -/
def dropT (s : Sp) : Sp := (2 * s.1 % 4294967296, 2 * s.2 % 4294967296 + 1)
/-- The last number of the part of a bit 0. -/
def lastZ (s : Sp) (o : Nat × Nat) : Nat := s.1 + (s.2 - s.1) * o.1 / (o.1 + o.2)
/-- The part that is kept. -/
def kept (s : Sp) (b l : Nat) : Sp := if b = 0 then (s.1, l) else (l + 1, s.2)

/-- Digits that are settled, and what is left. -/
def normW : Nat → Sp → List Nat × Sp
  | 0, s => ([], s)
  | f + 1, s => if settled s then (top s.1 :: (normW f (dropT s)).1, (normW f (dropT s)).2) else ([], s)

theorem settled_iff (s : Sp) (h : s.1 ≤ s.2) (h2 : s.2 < 4294967296) : settled s = true ↔ (s.2 < 2147483648 ∨ 2147483648 ≤ s.1) := by
  unfold settled top
  rw [beq_iff_eq]
  omega

theorem drop_width {s : Sp} (h : s.1 ≤ s.2) (h2 : s.2 < 4294967296) (hs : settled s = true) : (dropT s).1 ≤ (dropT s).2 ∧ (dropT s).2 < 4294967296 ∧ (dropT s).2 + 1 - (dropT s).1 = 2 * (s.2 + 1 - s.1) := by
  rw [settled_iff s h h2] at hs
  unfold dropT
  simp only
  omega

theorem norm_open : ∀ (f : Nat) (s : Sp), s.1 ≤ s.2 → s.2 < 4294967296 → 4294967296 < (s.2 + 1 - s.1) * 2 ^ f → (normW f s).2.1 < 2147483648 ∧ 2147483648 ≤ (normW f s).2.2 ∧ (normW f s).2.2 < 4294967296
  | 0, s, h, h2, h3 => by simp at h3; omega
  | f + 1, s, h, h2, h3 => by
    by_cases hs : settled s = true
    · obtain ⟨a, b, c⟩ := drop_width h h2 hs
      have := norm_open f (dropT s) a b (by rw [c, Nat.mul_comm 2, Nat.mul_assoc]; rw [Nat.pow_succ, Nat.mul_comm (2 ^ f) 2] at h3; exact h3)
      rw [normW, if_pos hs]
      exact this
    · rw [normW, if_neg hs]
      have hn : ¬ (s.2 < 2147483648 ∨ 2147483648 ≤ s.1) := fun e => hs ((settled_iff s h h2).2 e)
      simp only
      omega

theorem norm_bits : ∀ (f : Nat) (s : Sp), s.1 < 4294967296 → ∀ d ∈ (normW f s).1, d < 2
  | 0, _, _, d, hd => by simp [normW] at hd
  | f + 1, s, h, d, hd => by
    by_cases hs : settled s = true
    · rw [normW, if_pos hs] at hd
      rcases List.mem_cons.1 hd with e | hd
      · rw [e]
        unfold top
        omega
      · exact norm_bits f (dropT s) (Nat.mod_lt _ (by omega)) d hd
    · rw [normW, if_neg hs] at hd
      simp at hd

theorem norm_length : ∀ (f : Nat) (s : Sp), (normW f s).1.length ≤ f
  | 0, _ => by simp [normW]
  | f + 1, s => by
    rw [normW]
    split
    · rw [List.length_cons]
      have := norm_length f (dropT s)
      omega
    · simp

theorem head_lt {D : List Nat} (h : ∀ d ∈ D, d < 2) (k : Nat) : (D.drop k).headD 0 < 2 := by
  cases e : D.drop k with
  | nil => simp
  | cons a r => exact h a (List.mem_of_mem_drop (by rw [e]; simp : a ∈ D.drop k))

/-- Numbers of what is left, one digit ahead. -/
theorem win_drop {s : Sp} {D : List Nat} (hb : ∀ d ∈ D, d < 2) (h : s.1 ≤ s.2) (h2 : s.2 < 4294967296) (hs : settled s = true) (hD : (dropT s).1 ≤ win 32 D ∧ win 32 D ≤ (dropT s).2) : s.1 ≤ win 32 (top s.1 :: D) ∧ win 32 (top s.1 :: D) ≤ s.2 := by
  rw [settled_iff s h h2] at hs
  have e := win_snoc 31 D
  have hh := head_lt hb 31
  rw [win]
  obtain ⟨l, u⟩ := s
  unfold dropT at hD
  unfold top
  simp only at *
  have e2 : (2 : Nat) ^ 31 = 2147483648 := by decide
  rw [e2]
  generalize win 32 D = W at *
  generalize win 31 D = V at *
  generalize (D.drop 31).headD 0 = x at *
  omega

theorem win_norm : ∀ (f : Nat) (s : Sp) (D : List Nat), (∀ d ∈ D, d < 2) → s.1 ≤ s.2 → s.2 < 4294967296 → (normW f s).2.1 ≤ win 32 D ∧ win 32 D ≤ (normW f s).2.2 → s.1 ≤ win 32 ((normW f s).1 ++ D) ∧ win 32 ((normW f s).1 ++ D) ≤ s.2
  | 0, s, D, _, _, _, hD => hD
  | f + 1, s, D, hb, h, h2, hD => by
    by_cases hs : settled s = true
    · rw [normW, if_pos hs] at hD
      rw [normW, if_pos hs]
      obtain ⟨a, b, _⟩ := drop_width h h2 hs
      have ih := win_norm f (dropT s) D hb a b hD
      refine win_drop ?_ h h2 hs ih
      intro d hd
      rcases List.mem_append.1 hd with hd | hd
      · exact norm_bits f (dropT s) (Nat.lt_of_le_of_lt a b) d hd
      · exact hb d hd
    · rw [normW, if_neg hs] at hD
      rw [normW, if_neg hs]
      exact hD

/-! ### Digits asked for, with zeros behind the end -/
/-- What is left of the digits, and how many zeros may be read yet. -/
abbrev Src := List Nat × Nat
def digit : Src → Option (Nat × Src)
  | (d :: r, z) => some (d, (r, z))
  | ([], z + 1) => some (0, ([], z))
  | ([], 0) => none

/-- The number read, one digit on. -/
def shiftIn (n d : Nat) : Nat := 2 * n % 4294967296 + d

/-- The reader goes along. -/
def normR : Nat → Sp → Nat → Src → Option (Sp × Nat × Src)
  | 0, s, n, q => some (s, n, q)
  | f + 1, s, n, q => if settled s then (match digit q with
    | none => none
    | some (d, q') => normR f (dropT s) (shiftIn n d) q') else some (s, n, q)

/-- The source behind the window of a text. -/
def src (D : List Nat) : Src := (D.drop 32, min 32 D.length)

theorem digit_src (t : Nat) (D : List Nat) : digit (src (t :: D)) = some ((D.drop 31).headD 0, src D) := by
  unfold src
  rw [List.drop_succ_cons]
  cases e : D.drop 31 with
  | nil =>
    have hl : D.length ≤ 31 := by simpa using e
    have e2 : D.drop 32 = [] := List.drop_eq_nil_iff.2 (by omega)
    have e3 : min 32 (t :: D).length = D.length + 1 := by rw [List.length_cons]; omega
    rw [e3, e2, digit, Nat.min_eq_right (by omega)]
    rfl
  | cons a r =>
    have hl : 31 < D.length := by
      rcases Nat.lt_or_ge 31 D.length with h | h
      · exact h
      · rw [List.drop_eq_nil_iff.2 h] at e
        simp at e
    have e2 : D.drop 32 = r := by
      have := List.drop_drop (i := 1) (j := 31) (l := D)
      rw [e] at this
      simpa using this.symm
    rw [digit, e2, List.length_cons, Nat.min_eq_left (by omega), Nat.min_eq_left (by omega)]
    rfl

theorem shift_win (t : Nat) (D : List Nat) (hb : ∀ d ∈ D, d < 2) : shiftIn (win 32 (t :: D)) ((D.drop 31).headD 0) = win 32 D := by
  unfold shiftIn
  rw [win, win_snoc 31 D]
  have h := win_lt 31 D hb
  have e2 : (2 : Nat) ^ 31 = 2147483648 := by decide
  rw [e2] at *
  generalize win 31 D = V at *
  have : 2 * (t * 2147483648 + V) = 4294967296 * t + 2 * V := by omega
  rw [this, Nat.mul_add_mod]
  omega

theorem normR_src : ∀ (f : Nat) (s : Sp) (D : List Nat), (∀ d ∈ D, d < 2) → s.1 ≤ s.2 → s.2 < 4294967296 → normR f s (win 32 ((normW f s).1 ++ D)) (src ((normW f s).1 ++ D)) = some ((normW f s).2, win 32 D, src D)
  | 0, s, D, _, _, _ => rfl
  | f + 1, s, D, hb, h, h2 => by
    by_cases hs : settled s = true
    · obtain ⟨a, b, _⟩ := drop_width h h2 hs
      have hb2 : ∀ d ∈ (normW f (dropT s)).1 ++ D, d < 2 := by
        intro d hd
        rcases List.mem_append.1 hd with hd | hd
        · exact norm_bits f (dropT s) (Nat.lt_of_le_of_lt a b) d hd
        · exact hb d hd
      rw [normW, if_pos hs, normR, if_pos hs, List.cons_append, digit_src]
      simp only
      rw [shift_win _ _ hb2]
      exact normR_src f (dropT s) D hb a b
    · rw [normW, if_neg hs, normR, if_neg hs]
      rfl
end Go.Proofs.YtkiindkoiomieaaGreatDoor.Co
end

section
/-
  Plain mathematics of P7: what is written by how likely it is, is read. Nothing of the program.
-/
namespace Go.Proofs.YtkiindkoiomieaaGreatDoor.Co

/-! ### Where a bit stands, and how likely it is -/
/-- A place: whether the number is how long a run is; the bits ahead of it behind a 1. -/
abbrev Pl := Nat × Nat
/-- The digits among the bits behind the 1. -/
def numAt (a : Nat) : Nat := a - 2 ^ (dig a - 1)
/-- Are these all that the zeros ask for? -/
def whole (a : Nat) : Bool := decide (2 * dig (numAt a) = dig a)
/-- The bits ahead of the bit behind. -/
def stq (q b : Nat) : Nat := if whole (2 * q + b) then 1 else 2 * q + b
/-- The place behind. -/
def bhd (p : Pl) (b : Nat) : Pl := if whole (2 * p.2 + b) then (if numAt (2 * p.2 + b) = 1 ∧ p.1 = 0 then (1, 1) else (0, 1)) else (p.1, 2 * p.2 + b)

theorem bhd_snd (p : Pl) (b : Nat) : (bhd p b).2 = stq p.2 b := by
  unfold bhd stq
  split
  · split <;> rfl
  · rfl

/-- How often it was 0 and 1, each once more, by places; and the place. -/
structure Fo where
  met : Pl → Nat × Nat
  pl : Pl
def fo0 : Fo := ⟨fun _ => (1, 1), (0, 1)⟩
def cnt (o : Nat × Nat) (b : Nat) : Nat × Nat := if b = 0 then (o.1 + 1, o.2) else (o.1, o.2 + 1)
def Fo.odds (f : Fo) : Nat × Nat := f.met f.pl
def Fo.pass (f : Fo) (b : Nat) : Fo := ⟨fun p => if p = f.pl then cnt (f.met p) b else f.met p, bhd f.pl b⟩
/-- Both are met, and no more than so often. -/
def Fo.Ok (f : Fo) (n : Nat) : Prop := ∀ p, 1 ≤ (f.met p).1 ∧ 1 ≤ (f.met p).2 ∧ (f.met p).1 + (f.met p).2 ≤ n + 2

theorem fo0_ok : fo0.Ok 0 := fun _ => ⟨Nat.le_refl _, Nat.le_refl _, Nat.le_refl _⟩
theorem Fo.Ok.mono {f : Fo} {n m : Nat} (h : f.Ok n) (hm : n ≤ m) : f.Ok m := fun p => by have := h p; omega
theorem Fo.Ok.pass {f : Fo} {n : Nat} (h : f.Ok n) (b : Nat) : (f.pass b).Ok (n + 1) := by
  intro p
  have hp := h p
  unfold Fo.pass
  simp only
  by_cases e : p = f.pl
  · rw [if_pos e]
    unfold cnt
    split <;> simp only <;> omega
  · rw [if_neg e]
    omega

/-! ### The writer -/
structure Wr where
  sp : Sp
  fo : Fo
def wr0 : Wr := ⟨(0, 4294967295), fo0⟩
def Wr.open (c : Wr) : Prop := c.sp.1 < 2147483648 ∧ 2147483648 ≤ c.sp.2 ∧ c.sp.2 < 4294967296
/-- What a bit keeps. -/
def Wr.cut (c : Wr) (b : Nat) : Sp := kept c.sp b (lastZ c.sp c.fo.odds)
/-- A bit written: digits. -/
def Wr.out (c : Wr) (b : Nat) : List Nat := (normW 33 (c.cut b)).1
/-- A bit written: what is left. -/
def Wr.step (c : Wr) (b : Nat) : Wr := ⟨(normW 33 (c.cut b)).2, c.fo.pass b⟩
/-- Bits written: digits. -/
def Wr.outs : Wr → List Nat → List Nat
  | _, [] => []
  | c, b :: r => c.out b ++ Wr.outs (c.step b) r
def Wr.steps : Wr → List Nat → Wr
  | c, [] => c
  | c, b :: r => Wr.steps (c.step b) r
/-- The end. -/
def Wr.fin (c : Wr) : List Nat := if 0 < c.sp.1 then [1] else []

theorem last_in {s : Sp} {o : Nat × Nat} (h : s.1 < s.2) (h2 : 1 ≤ o.2) : s.1 ≤ lastZ s o ∧ lastZ s o < s.2 := by
  unfold lastZ
  have : (s.2 - s.1) * o.1 / (o.1 + o.2) < s.2 - s.1 := by
    rw [Nat.div_lt_iff_lt_mul (by omega)]
    exact Nat.mul_lt_mul_of_pos_left (by omega) (by omega)
  generalize (s.2 - s.1) * o.1 / (o.1 + o.2) = x at *
  omega

theorem cut_in {c : Wr} (ho : c.open) {n : Nat} (hf : c.fo.Ok n) (b : Nat) : (c.cut b).1 ≤ (c.cut b).2 ∧ (c.cut b).2 < 4294967296 := by
  obtain ⟨h1, h2, h3⟩ := ho
  have := last_in (s := c.sp) (o := c.fo.odds) (by omega) (hf c.fo.pl).2.1
  unfold Wr.cut kept
  split <;> simp only <;> omega

theorem step_open {c : Wr} (ho : c.open) {n : Nat} (hf : c.fo.Ok n) (b : Nat) : (c.step b).open := by
  obtain ⟨h1, h2⟩ := cut_in ho hf b
  exact norm_open 33 (c.cut b) h1 h2 (by
    have : 1 * 2 ^ 33 ≤ ((c.cut b).2 + 1 - (c.cut b).1) * 2 ^ 33 := Nat.mul_le_mul_right _ (by omega)
    have e : (2 : Nat) ^ 33 = 8589934592 := by decide
    omega)

theorem out_bits {c : Wr} (ho : c.open) {n : Nat} (hf : c.fo.Ok n) (b : Nat) : ∀ d ∈ c.out b, d < 2 :=
  norm_bits 33 (c.cut b) (by have := cut_in ho hf b; omega)

theorem outs_bits : ∀ (l : List Nat) (c : Wr) (n : Nat), c.open → c.fo.Ok n → ∀ d ∈ c.outs l, d < 2
  | [], _, _, _, _, d, hd => by simp [Wr.outs] at hd
  | b :: r, c, n, ho, hf, d, hd => by
    rw [Wr.outs] at hd
    rcases List.mem_append.1 hd with hd | hd
    · exact out_bits ho hf b d hd
    · exact outs_bits r (c.step b) (n + 1) (step_open ho hf b) (hf.pass b) d hd

theorem fin_bits (c : Wr) : ∀ d ∈ c.fin, d < 2 := by
  intro d hd
  unfold Wr.fin at hd
  split at hd
  · simp at hd
    omega
  · simp at hd

theorem steps_open : ∀ (l : List Nat) (c : Wr) (n : Nat), c.open → c.fo.Ok n → (c.steps l).open ∧ (c.steps l).fo.Ok (n + l.length)
  | [], _, _, ho, hf => ⟨ho, hf⟩
  | b :: r, c, n, ho, hf => by
    have := steps_open r (c.step b) (n + 1) (step_open ho hf b) (hf.pass b)
    rw [Wr.steps, List.length_cons]
    exact ⟨this.1, this.2.mono (by omega)⟩

theorem outs_snoc : ∀ (l : List Nat) (c : Wr) (b : Nat), c.outs (l ++ [b]) = c.outs l ++ (c.steps l).out b
  | [], c, b => by simp [Wr.outs, Wr.steps]
  | x :: l, c, b => by rw [List.cons_append, Wr.outs, outs_snoc l (c.step x) b, Wr.outs, Wr.steps, List.append_assoc]
theorem steps_snoc : ∀ (l : List Nat) (c : Wr) (b : Nat), c.steps (l ++ [b]) = (c.steps l).step b
  | [], c, b => rfl
  | x :: l, c, b => by rw [List.cons_append, Wr.steps, steps_snoc l (c.step x) b, Wr.steps]

/-- All the digits of so many bits, and zeros. -/
def Wr.code (c : Wr) (l : List Nat) (z : Nat) : List Nat := c.outs l ++ ((c.steps l).fin ++ List.replicate z 0)

theorem code_bits {c : Wr} (ho : c.open) {n : Nat} (hf : c.fo.Ok n) (l : List Nat) (z : Nat) : ∀ d ∈ c.code l z, d < 2 := by
  intro d hd
  unfold Wr.code at hd
  rcases List.mem_append.1 hd with hd | hd
  · exact outs_bits l c n ho hf d hd
  · rcases List.mem_append.1 hd with hd | hd
    · exact fin_bits _ d hd
    · have := List.eq_of_mem_replicate hd
      omega

theorem code_in : ∀ (l : List Nat) (c : Wr) (n z : Nat), c.open → c.fo.Ok n → c.sp.1 ≤ win 32 (c.code l z) ∧ win 32 (c.code l z) ≤ c.sp.2
  | [], c, n, z, ho, _ => by
    obtain ⟨h1, h2, h3⟩ := ho
    unfold Wr.code Wr.fin
    rw [Wr.outs, Wr.steps, List.nil_append]
    by_cases h0 : 0 < c.sp.1
    · rw [if_pos h0, List.singleton_append, win, win_zeros]
      have e2 : (2 : Nat) ^ 31 = 2147483648 := by decide
      omega
    · rw [if_neg h0, List.nil_append, win_zeros]
      omega
  | b :: r, c, n, z, ho, hf => by
    have ih := code_in r (c.step b) (n + 1) z (step_open ho hf b) (hf.pass b)
    obtain ⟨h1, h2⟩ := cut_in ho hf b
    have e : c.code (b :: r) z = c.out b ++ (c.step b).code r z := by
      unfold Wr.code
      rw [Wr.outs, Wr.steps, List.append_assoc]
    have hw := win_norm 33 (c.cut b) ((c.step b).code r z) (code_bits (step_open ho hf b) (hf.pass b) r z) h1 h2 ih
    rw [e]
    obtain ⟨g1, g2, g3⟩ := ho
    have hl := last_in (s := c.sp) (o := c.fo.odds) (by omega) (hf c.fo.pl).2.1
    have hcut : c.sp.1 ≤ (c.cut b).1 ∧ (c.cut b).2 ≤ c.sp.2 := by
      unfold Wr.cut kept
      split <;> simp only <;> omega
    have hw' : (c.cut b).1 ≤ win 32 (c.out b ++ (c.step b).code r z) ∧ win 32 (c.out b ++ (c.step b).code r z) ≤ (c.cut b).2 := hw
    omega

/-! ### The reader -/
structure Re where
  sp : Sp
  fo : Fo
  num : Nat
  q : Src
/-- Which bit. -/
def Re.bit (r : Re) : Nat := if lastZ r.sp r.fo.odds < r.num then 1 else 0
/-- A bit read. -/
def Re.next (r : Re) : Option (Nat × Re) := match normR 33 (kept r.sp r.bit (lastZ r.sp r.fo.odds)) r.num r.q with
  | none => none
  | some (s, n, q) => some (r.bit, ⟨s, r.fo.pass r.bit, n, q⟩)

/-- The reader of what a writer writes. -/
def Wr.reader (c : Wr) (D : List Nat) : Re := ⟨c.sp, c.fo, win 32 D, src D⟩

theorem next_code (c : Wr) (n b : Nat) (r : List Nat) (z : Nat) (hb : b < 2) (ho : c.open) (hf : c.fo.Ok n) : (c.reader (c.code (b :: r) z)).next = some (b, (c.step b).reader ((c.step b).code r z)) := by
  obtain ⟨h1, h2⟩ := cut_in ho hf b
  have ih := code_in r (c.step b) (n + 1) z (step_open ho hf b) (hf.pass b)
  have hbits := code_bits (step_open ho hf b) (hf.pass b) r z
  have hw := win_norm 33 (c.cut b) ((c.step b).code r z) hbits h1 h2 ih
  have e : c.code (b :: r) z = (normW 33 (c.cut b)).1 ++ (c.step b).code r z := by
    unfold Wr.code
    rw [Wr.outs, Wr.steps, List.append_assoc]
    rfl
  have hbit : (c.reader (c.code (b :: r) z)).bit = b := by
    unfold Re.bit Wr.reader
    simp only
    rw [e]
    unfold Wr.cut kept at hw
    rcases (show b = 0 ∨ b = 1 by omega) with rfl | rfl
    · rw [if_pos rfl] at hw
      rw [if_neg]
      have := hw.2
      simp only at this
      exact Nat.not_lt.2 this
    · rw [if_neg (by omega)] at hw
      rw [if_pos]
      have := hw.1
      simp only at this
      exact this
  have hR := normR_src 33 (c.cut b) ((c.step b).code r z) hbits h1 h2
  rw [← e] at hR
  unfold Re.next
  rw [hbit]
  have e2 : kept (c.reader (c.code (b :: r) z)).sp b (lastZ (c.reader (c.code (b :: r) z)).sp (c.reader (c.code (b :: r) z)).fo.odds) = c.cut b := rfl
  have e3 : (c.reader (c.code (b :: r) z)).num = win 32 (c.code (b :: r) z) := rfl
  have e4 : (c.reader (c.code (b :: r) z)).q = src (c.code (b :: r) z) := rfl
  rw [e2, e3, e4, hR]
  rfl
end Go.Proofs.YtkiindkoiomieaaGreatDoor.Co
end

section
/-
  Plain mathematics of P7: numbers read from any source of bits, the telling, bits as bytes. Nothing of the program.
-/
namespace Go.Proofs.YtkiindkoiomieaaGreatDoor.Co

/-! ### Numbers read from a source -/
section
variable {σ : Type} (nx : σ → Option (Nat × σ))
def zerosG : Nat → Nat → σ → Option (Nat × σ)
  | 0, _, _ => none
  | f + 1, z, s => match nx s with
    | none => none
    | some (b, t) => if b = 1 then some (z, t) else zerosG f (z + 1) t
def digitsG : Nat → Nat → σ → Option (Nat × σ)
  | 0, n, s => some (n, s)
  | k + 1, n, s => match nx s with
    | none => none
    | some (b, t) => digitsG k (2 * n + b) t
def numG (s : σ) : Option (Nat × σ) := match zerosG nx 31 0 s with
  | none => none
  | some (z, t) => match digitsG nx z 1 t with
    | none => none
    | some (n, u) => if n ≤ 1073741824 then some (n, u) else none
def toldG (s : σ) : Option (Nat × σ) := match numG nx s with
  | none => none
  | some (n, t) => if n ≤ 256 then some (n, t) else none
/-- A telling read until it has told so many. -/
def placesG (size : Nat) : Nat → List UInt8 → σ → Option (List UInt8)
  | 0, acc, _ => if acc.length < size then none else some acc
  | f + 1, acc, s => if acc.length < size then (match toldG nx s with
    | none => none
    | some (n, t) => if n = 1 then (match toldG nx t with
      | none => none
      | some (k, u) => placesG size f (acc ++ List.replicate k 0) u) else placesG size f (acc ++ [UInt8.ofNat (n - 1)]) t) else some acc
end

section
variable {σ τ : Type} {nx : σ → Option (Nat × σ)} {ny : τ → Option (Nat × τ)} (R : σ → τ → Prop) (hR : ∀ s t b s', R s t → nx s = some (b, s') → ∃ t', ny t = some (b, t') ∧ R s' t')
include hR
theorem zeros_sim : ∀ (f z : Nat) (s : σ) (t : τ) (n : Nat) (s' : σ), R s t → zerosG nx f z s = some (n, s') → ∃ t', zerosG ny f z t = some (n, t') ∧ R s' t'
  | 0, _, _, _, _, _, _, h => by simp [zerosG] at h
  | f + 1, z, s, t, n, s', hs, h => by
    rw [zerosG] at h
    cases e : nx s with
    | none => rw [e] at h; simp at h
    | some v =>
      obtain ⟨b, s1⟩ := v
      obtain ⟨t1, h1, h2⟩ := hR s t b s1 hs e
      rw [e] at h
      simp only at h
      rw [zerosG, h1]
      simp only
      by_cases hb : b = 1
      · rw [if_pos hb] at h
        rw [if_pos hb]
        simp only [Option.some.injEq, Prod.mk.injEq] at h
        obtain ⟨rfl, rfl⟩ := h
        exact ⟨t1, rfl, h2⟩
      · rw [if_neg hb] at h
        rw [if_neg hb]
        exact zeros_sim f (z + 1) s1 t1 n s' h2 h
theorem digits_sim : ∀ (k m : Nat) (s : σ) (t : τ) (n : Nat) (s' : σ), R s t → digitsG nx k m s = some (n, s') → ∃ t', digitsG ny k m t = some (n, t') ∧ R s' t'
  | 0, m, s, t, n, s', hs, h => by
    simp only [digitsG, Option.some.injEq, Prod.mk.injEq] at h
    obtain ⟨rfl, rfl⟩ := h
    exact ⟨t, rfl, hs⟩
  | k + 1, m, s, t, n, s', hs, h => by
    rw [digitsG] at h
    cases e : nx s with
    | none => rw [e] at h; simp at h
    | some v =>
      obtain ⟨b, s1⟩ := v
      obtain ⟨t1, h1, h2⟩ := hR s t b s1 hs e
      rw [e] at h
      simp only at h
      rw [digitsG, h1]
      simp only
      exact digits_sim k (2 * m + b) s1 t1 n s' h2 h
theorem num_sim (s : σ) (t : τ) (n : Nat) (s' : σ) (hs : R s t) (h : numG nx s = some (n, s')) : ∃ t', numG ny t = some (n, t') ∧ R s' t' := by
  unfold numG at h
  cases e : zerosG nx 31 0 s with
  | none => rw [e] at h; simp at h
  | some v =>
    obtain ⟨z, s1⟩ := v
    obtain ⟨t1, h1, h2⟩ := zeros_sim R hR 31 0 s t z s1 hs e
    rw [e] at h
    simp only at h
    cases e2 : digitsG nx z 1 s1 with
    | none => rw [e2] at h; simp at h
    | some v2 =>
      obtain ⟨m, s2⟩ := v2
      obtain ⟨t2, h3, h4⟩ := digits_sim R hR z 1 s1 t1 m s2 h2 e2
      rw [e2] at h
      simp only at h
      unfold numG
      rw [h1]
      simp only
      rw [h3]
      simp only
      by_cases hm : m ≤ 1073741824
      · rw [if_pos hm] at h
        rw [if_pos hm]
        simp only [Option.some.injEq, Prod.mk.injEq] at h
        obtain ⟨rfl, rfl⟩ := h
        exact ⟨t2, rfl, h4⟩
      · rw [if_neg hm] at h
        simp at h
theorem told_sim (s : σ) (t : τ) (n : Nat) (s' : σ) (hs : R s t) (h : toldG nx s = some (n, s')) : ∃ t', toldG ny t = some (n, t') ∧ R s' t' := by
  unfold toldG at h
  cases e : numG nx s with
  | none => rw [e] at h; simp at h
  | some v =>
    obtain ⟨m, s1⟩ := v
    obtain ⟨t1, h1, h2⟩ := num_sim R hR s t m s1 hs e
    rw [e] at h
    simp only at h
    unfold toldG
    rw [h1]
    simp only
    by_cases hm : m ≤ 256
    · rw [if_pos hm] at h
      rw [if_pos hm]
      simp only [Option.some.injEq, Prod.mk.injEq] at h
      obtain ⟨rfl, rfl⟩ := h
      exact ⟨t1, rfl, h2⟩
    · rw [if_neg hm] at h
      simp at h
theorem places_sim (size : Nat) : ∀ (f : Nat) (acc : List UInt8) (s : σ) (t : τ) (l : List UInt8), R s t → placesG nx size f acc s = some l → placesG ny size f acc t = some l
  | 0, _, _, _, _, _, h => h
  | f + 1, acc, s, t, l, hs, h => by
    rw [placesG] at h
    rw [placesG]
    by_cases hl : acc.length < size
    · rw [if_pos hl] at h
      rw [if_pos hl]
      cases e : toldG nx s with
      | none => rw [e] at h; simp at h
      | some v =>
        obtain ⟨n, s1⟩ := v
        obtain ⟨t1, h1, h2⟩ := told_sim R hR s t n s1 hs e
        rw [e] at h
        rw [h1]
        simp only at h ⊢
        by_cases hn : n = 1
        · rw [if_pos hn] at h
          rw [if_pos hn]
          cases e2 : toldG nx s1 with
          | none => rw [e2] at h; simp at h
          | some v2 =>
            obtain ⟨k, s2⟩ := v2
            obtain ⟨t2, h3, h4⟩ := told_sim R hR s1 t1 k s2 h2 e2
            rw [e2] at h
            rw [h3]
            simp only at h ⊢
            exact places_sim size f _ s2 t2 l h4 h
        · rw [if_neg hn] at h
          rw [if_neg hn]
          exact places_sim size f _ s1 t1 l h2 h
    · rw [if_neg hl] at h
      rw [if_neg hl]
      exact h
end

/-! ### A list of bits -/
def nxL : List Nat → Option (Nat × List Nat)
  | [] => none
  | b :: r => some (b, r)

/-- The j lowest binary digits, the highest first. -/
def lowN : Nat → Nat → List Nat
  | 0, _ => []
  | j + 1, n => n / 2 ^ j % 2 :: lowN j n
/-- One number as bits. -/
def gbits (n : Nat) : List Nat := List.replicate (dig n - 1) 0 ++ lowN (dig n) n
def gbitsL (l : List Nat) : List Nat := (l.map gbits).flatten

theorem lowN_length : ∀ j n, (lowN j n).length = j
  | 0, _ => rfl
  | j + 1, n => by simp [lowN, lowN_length j n]

theorem lowN_bits : ∀ j n, ∀ d ∈ lowN j n, d < 2
  | 0, _, d, h => by simp [lowN] at h
  | j + 1, n, d, h => by
    rcases List.mem_cons.1 h with rfl | h
    · exact Nat.mod_lt _ (by omega)
    · exact lowN_bits j n d h

theorem gbits_bits (n : Nat) : ∀ d ∈ gbits n, d < 2 := by
  intro d hd
  rcases List.mem_append.1 hd with hd | hd
  · have := List.eq_of_mem_replicate hd
    omega
  · exact lowN_bits _ _ d hd

theorem gbitsL_bits (l : List Nat) : ∀ d ∈ gbitsL l, d < 2 := by
  intro d hd
  unfold gbitsL at hd
  obtain ⟨m, hm, hd⟩ := List.mem_flatten.1 hd
  obtain ⟨n, _, rfl⟩ := List.mem_map.1 hm
  exact gbits_bits n d hd

theorem zeros_list : ∀ (k f z : Nat) (l : List Nat), k < f → zerosG nxL f z (List.replicate k 0 ++ 1 :: l) = some (z + k, l)
  | 0, f + 1, z, l, _ => rfl
  | k + 1, f + 1, z, l, h => by
    rw [List.replicate_succ, List.cons_append, zerosG]
    simp only [nxL]
    rw [if_neg (by omega), zeros_list k f (z + 1) l (by omega)]
    simp
    omega

theorem digits_list : ∀ (k m n : Nat) (l : List Nat), digitsG nxL k m (lowN k n ++ l) = some (m * 2 ^ k + n % 2 ^ k, l)
  | 0, m, n, l => by simp [digitsG, lowN, Nat.mod_one]
  | k + 1, m, n, l => by
    rw [lowN, List.cons_append, digitsG]
    simp only [nxL]
    rw [digits_list k (2 * m + n / 2 ^ k % 2) n l]
    have e : n % 2 ^ (k + 1) = n % 2 ^ k + 2 ^ k * (n / 2 ^ k % 2) := by rw [Nat.pow_succ, Nat.mod_mul]
    have e2 : (2 * m + n / 2 ^ k % 2) * 2 ^ k = m * 2 ^ (k + 1) + 2 ^ k * (n / 2 ^ k % 2) := by
      rw [Nat.add_mul, Nat.pow_succ, Nat.mul_comm 2 m, Nat.mul_assoc, Nat.mul_comm 2 (2 ^ k), Nat.mul_comm (n / 2 ^ k % 2)]
    rw [e, e2]
    simp
    omega

theorem num_list {n : Nat} (h0 : 1 ≤ n) (h1 : n ≤ 1073741824) (l : List Nat) : numG nxL (gbits n ++ l) = some (n, l) := by
  obtain ⟨d1, d2, d3, d4⟩ := dig_bounds h0 h1
  obtain ⟨d, hd⟩ : ∃ d, dig n = d + 1 := ⟨dig n - 1, by omega⟩
  rw [hd, Nat.add_sub_cancel] at d3
  rw [hd] at d4
  have hq : n / 2 ^ d = 1 := by
    have hp : 0 < 2 ^ d := Nat.pow_pos (by omega)
    rw [Nat.pow_succ, Nat.mul_comm] at d4
    have a := (Nat.le_div_iff_mul_le hp).2 (by rw [Nat.one_mul]; exact d3 : 1 * 2 ^ d ≤ n)
    have b := (Nat.div_lt_iff_lt_mul hp).2 d4
    omega
  have e : gbits n ++ l = List.replicate d 0 ++ 1 :: (lowN d n ++ l) := by
    unfold gbits
    rw [hd, Nat.add_sub_cancel, lowN, hq, List.append_assoc]
    rfl
  unfold numG
  rw [e, zeros_list d 31 0 _ (by omega)]
  simp only [Nat.zero_add]
  rw [digits_list]
  have e2 : 1 * 2 ^ d + n % 2 ^ d = n := by
    have := Nat.div_add_mod n (2 ^ d)
    rw [hq] at this
    omega
  simp only [e2]
  rw [if_pos h1]

theorem told_list {n : Nat} (h0 : 1 ≤ n) (h1 : n ≤ 256) (l : List Nat) : toldG nxL (gbits n ++ l) = some (n, l) := by
  unfold toldG
  rw [num_list h0 (by omega)]
  simp only
  rw [if_pos h1]

/-! ### The telling -/
/-- With so many zeros met. -/
def tellA : Nat → List UInt8 → List Nat
  | 0, [] => []
  | k + 1, [] => [1, k + 1]
  | k, c :: r => if c = 0 then tellA (k + 1) r else (if k = 0 then [] else [1, k]) ++ (c.toNat + 1) :: tellA 0 r
def tell (x : List UInt8) : List Nat := tellA 0 x

theorem gbitsL_cons (n : Nat) (l : List Nat) : gbitsL (n :: l) = gbits n ++ gbitsL l := by simp [gbitsL]
theorem gbitsL_nil : gbitsL [] = [] := rfl
theorem gbitsL_append (a b : List Nat) : gbitsL (a ++ b) = gbitsL a ++ gbitsL b := by simp [gbitsL]

theorem tell_range : ∀ (x : List UInt8) (k : Nat), k + x.length ≤ 256 → ∀ n ∈ tellA k x, 1 ≤ n ∧ n ≤ 256
  | [], 0, _, n, hn => by simp [tellA] at hn
  | [], k + 1, h, n, hn => by
    simp [tellA] at hn
    simp at h
    omega
  | c :: r, k, h, n, hn => by
    rw [List.length_cons] at h
    rw [tellA] at hn
    · by_cases hc : c = 0
      · rw [if_pos hc] at hn
        exact tell_range r (k + 1) (by omega) n hn
      · rw [if_neg hc] at hn
        have hlt := c.toNat_lt
        rcases List.mem_append.1 hn with hn | hn
        · by_cases hk : k = 0
          · rw [if_pos hk] at hn
            simp at hn
          · rw [if_neg hk] at hn
            simp at hn
            omega
        · rcases List.mem_cons.1 hn with rfl | hn
          · omega
          · exact tell_range r 0 (by omega) n hn

theorem tell_length : ∀ (x : List UInt8) (k : Nat), (tellA k x).length ≤ 2 * (k + x.length)
  | [], 0 => by simp [tellA]
  | [], k + 1 => by
    simp [tellA]
    omega
  | c :: r, k => by
    rw [tellA]
    by_cases hc : c = 0
    · rw [if_pos hc, List.length_cons]
      have := tell_length r (k + 1)
      omega
    · rw [if_neg hc, List.length_append, List.length_cons, List.length_cons]
      have := tell_length r 0
      by_cases hk : k = 0
      · rw [if_pos hk]
        simp
        omega
      · rw [if_neg hk]
        simp
        omega

theorem ne_one {c : UInt8} (h : c ≠ 0) : c.toNat + 1 ≠ 1 := by
  intro e
  apply h
  have : c.toNat = 0 := by omega
  exact UInt8.toNat_inj.1 this

theorem places_told (size : Nat) (l : List Nat) : ∀ (x : List UInt8) (k f : Nat) (acc : List UInt8), acc.length + k + x.length = size → k + x.length ≤ f → k + x.length ≤ 256 → placesG nxL size f acc (gbitsL (tellA k x) ++ l) = some (acc ++ List.replicate k 0 ++ x)
  | [], 0, f, acc, h, _, _ => by
    simp at h
    cases f with
    | zero => rw [placesG, if_neg (by omega)]; simp
    | succ f => rw [placesG, if_neg (by omega)]; simp
  | [], k + 1, f, acc, h, hf, h256 => by
    simp at h hf h256
    obtain ⟨f, rfl⟩ : ∃ g, f = g + 1 := ⟨f - 1, by omega⟩
    rw [tellA, gbitsL_cons, gbitsL_cons, gbitsL_nil, List.append_nil, List.append_assoc, placesG, if_pos (by omega), told_list (by omega) (by omega)]
    simp only
    rw [if_pos trivial, told_list (by omega) (by omega)]
    simp only
    cases f with
    | zero => rw [placesG, if_neg (by simp; omega)]; simp
    | succ f => rw [placesG, if_neg (by simp; omega)]; simp
  | c :: r, k, f, acc, h, hf, h256 => by
    rw [List.length_cons] at h hf h256
    rw [tellA]
    by_cases hc : c = 0
    · rw [if_pos hc, places_told size l r (k + 1) f acc (by omega) (by omega) (by omega), List.replicate_succ', hc]
      simp
    · rw [if_neg hc]
      have hlt := c.toNat_lt
      by_cases hk : k = 0
      · rw [if_pos hk, List.nil_append, gbitsL_cons, List.append_assoc]
        obtain ⟨f, rfl⟩ : ∃ g, f = g + 1 := ⟨f - 1, by omega⟩
        rw [placesG, if_pos (by omega), told_list (by omega) (by omega)]
        simp only
        rw [if_neg (ne_one hc), Nat.add_sub_cancel, places_told size l r 0 f _ (by simp; omega) (by omega) (by omega), hk]
        simp
      · rw [if_neg hk]
        obtain ⟨f, rfl⟩ : ∃ g, f = g + 1 + 1 := ⟨f - 2, by omega⟩
        rw [List.cons_append, List.cons_append, List.nil_append, gbitsL_cons, gbitsL_cons, gbitsL_cons, List.append_assoc, List.append_assoc, List.append_assoc, placesG, if_pos (by omega), told_list (by omega) (by omega)]
        simp only
        rw [if_pos trivial, told_list (by omega) (by omega)]
        simp only
        rw [placesG, if_pos (by simp; omega), told_list (by omega) (by omega)]
        simp only
        rw [if_neg (ne_one hc), Nat.add_sub_cancel, places_told size l r 0 f _ (by simp; omega) (by omega) (by omega)]
        simp
end Go.Proofs.YtkiindkoiomieaaGreatDoor.Co
end

section
/-
  Plain mathematics of P7: bits as bytes; where a bit of a number stands. Nothing of the program.
-/
namespace Go.Proofs.YtkiindkoiomieaaGreatDoor.Co

/-! ### Bits as bytes -/
def bytesN : Nat → List Nat → List UInt8
  | 0, _ => []
  | k + 1, l => UInt8.ofNat (win 8 l) :: bytesN k (l.drop 8)
/-- Eight to a byte, zeros at the end. -/
def bytesF (l : List Nat) : List UInt8 := bytesN ((l.length + 7) / 8) l
def bitsF (x : List UInt8) : List Nat := (x.map fun c => lowN 8 c.toNat).flatten

theorem bytesN_length : ∀ k l, (bytesN k l).length = k
  | 0, _ => rfl
  | k + 1, l => by rw [bytesN, List.length_cons, bytesN_length k]
theorem bytesF_length (l : List Nat) : (bytesF l).length = (l.length + 7) / 8 := bytesN_length _ _

theorem bytesN_get : ∀ (k : Nat) (l : List Nat) (i : Nat), i < k → (bytesN k l)[i]? = some (UInt8.ofNat (win 8 (l.drop (8 * i))))
  | 0, _, _, h => by omega
  | k + 1, l, 0, _ => by simp [bytesN]
  | k + 1, l, i + 1, h => by
    rw [bytesN, List.getElem?_cons_succ, bytesN_get k (l.drop 8) i (by omega), List.drop_drop]
    congr 4
    omega

theorem lowN_mod : ∀ (j n : Nat), lowN j (n % 2 ^ j) = lowN j n := by
  have key : ∀ (j m n : Nat), j ≤ m → lowN j (n % 2 ^ m) = lowN j n := by
    intro j
    induction j with
    | zero => intros; rfl
    | succ j ih =>
      intro m n h
      rw [lowN, lowN, ih m n (by omega)]
      congr 1
      obtain ⟨k, rfl⟩ : ∃ k, m = j + (k + 1) := ⟨m - j - 1, by omega⟩
      rw [Nat.pow_add, Nat.mod_mul_right_div_self, Nat.pow_succ, Nat.mod_mul_left_mod]
  exact fun j n => key j j n (Nat.le_refl _)

theorem lowN_win : ∀ (k : Nat) (l : List Nat), (∀ d ∈ l, d < 2) → lowN k (win k l) = l.take k ++ List.replicate (k - l.length) 0
  | 0, l, _ => by simp [lowN]
  | k + 1, [], h => by
    have ih := lowN_win k [] h
    rw [win_nil] at ih
    rw [win, lowN, ih]
    simp [List.replicate_succ]
  | k + 1, d :: r, h => by
    have hr : ∀ x ∈ r, x < 2 := fun x hx => h x (by simp [hx])
    have ih := lowN_win k r hr
    have hd := h d (by simp)
    have hw := win_lt k r hr
    rw [win, lowN, ← lowN_mod k (d * 2 ^ k + win k r), Nat.mul_comm d, Nat.mul_add_mod, Nat.mod_eq_of_lt hw, ih, Nat.mul_add_div (Nat.pow_pos (by omega)), Nat.div_eq_of_lt hw, Nat.add_zero, Nat.mod_eq_of_lt hd]
    simp

theorem win8_lt (l : List Nat) (h : ∀ d ∈ l, d < 2) : win 8 l < 256 := win_lt 8 l h

theorem bits_bytesN : ∀ (k : Nat) (l : List Nat), (∀ d ∈ l, d < 2) → bitsF (bytesN k l) = l.take (8 * k) ++ List.replicate (8 * k - l.length) 0
  | 0, l, _ => by simp [bytesN, bitsF]
  | k + 1, l, h => by
    have hd : ∀ x ∈ l.drop 8, x < 2 := fun x hx => h x (List.mem_of_mem_drop hx)
    have ih := bits_bytesN k (l.drop 8) hd
    unfold bitsF at ih ⊢
    have e1 : (UInt8.ofNat (win 8 l)).toNat = win 8 l := by
      have := win8_lt l h
      simp
      omega
    rw [bytesN, List.map_cons, List.flatten_cons, ih, e1, lowN_win 8 l h]
    rcases Nat.lt_or_ge l.length 8 with h8 | h8
    · have a : l.drop 8 = [] := List.drop_eq_nil_iff.2 (by omega)
      rw [a, List.take_of_length_le (by omega : l.length ≤ 8), List.take_of_length_le (by omega : l.length ≤ 8 * (k + 1))]
      simp
      omega
    · have a : 8 - l.length = 0 := by omega
      have b : 8 * (k + 1) = 8 + 8 * k := by omega
      rw [a, List.replicate_zero, List.append_nil, b, List.take_add, List.append_assoc, List.length_drop]
      congr 2
      congr 1
      omega

theorem bits_bytes (l : List Nat) (h : ∀ d ∈ l, d < 2) : ∃ z, bitsF (bytesF l) = l ++ List.replicate z 0 := by
  refine ⟨8 * ((l.length + 7) / 8) - l.length, ?_⟩
  unfold bytesF
  rw [bits_bytesN _ l h, List.take_of_length_le (by omega)]

theorem bitsF_bits (x : List UInt8) : ∀ d ∈ bitsF x, d < 2 := by
  intro d hd
  unfold bitsF at hd
  obtain ⟨m, hm, hd⟩ := List.mem_flatten.1 hd
  obtain ⟨c, _, rfl⟩ := List.mem_map.1 hm
  exact lowN_bits _ _ d hd

theorem bitsF_length : ∀ x : List UInt8, (bitsF x).length = 8 * x.length
  | [] => rfl
  | c :: r => by
    have := bitsF_length r
    unfold bitsF at *
    rw [List.map_cons, List.flatten_cons, List.length_append, this, lowN_length, List.length_cons]
    omega

theorem bitsF_snoc (x : List UInt8) (c : UInt8) : bitsF (x ++ [c]) = bitsF x ++ lowN 8 c.toNat := by simp [bitsF]

/-- Of digits ahead of the end. -/
theorem win_short : ∀ (k : Nat) (l : List Nat), l.length ≤ k → win k l = 2 ^ (k - l.length) * win l.length l
  | 0, l, h => by
    have : l = [] := List.length_eq_zero_iff.1 (by omega)
    subst this
    rfl
  | k + 1, [], _ => by simp [win]
  | k + 1, d :: r, h => by
    rw [List.length_cons] at h
    have ih := win_short k r (by omega)
    rw [List.length_cons, win, win, ih, Nat.mul_add, Nat.add_sub_add_right, Nat.mul_left_comm, ← Nat.pow_add]
    congr 3
    omega

theorem win_put : ∀ (k : Nat) (l : List Nat) (b : Nat), l.length < k → win k (l ++ [b]) = win k l + b * 2 ^ (k - 1 - l.length)
  | 0, _, _, h => by omega
  | k + 1, [], b, _ => by simp [win, win_nil]
  | k + 1, d :: r, b, h => by
    rw [List.length_cons] at h
    have ih := win_put k r b (by omega)
    rw [List.cons_append, win, ih, win, List.length_cons, Nat.add_assoc]
    congr 4
    omega

theorem win_or (l : List Nat) (b : Nat) (hb : b < 2) (h : l.length < 8) : win 8 (l ++ [b]) = win 8 l ||| b * 2 ^ (7 - l.length) := by
  rw [win_put 8 l b h, win_short 8 l (by omega)]
  have e : 8 - l.length = (7 - l.length) + 1 := by omega
  have hlt : b * 2 ^ (7 - l.length) < 2 ^ (8 - l.length) := by
    rw [e, Nat.pow_succ, Nat.mul_comm]
    exact Nat.mul_lt_mul_of_pos_left hb (Nat.pow_pos (by omega))
  exact Nat.two_pow_add_eq_or_of_lt hlt _

theorem win_take (l : List Nat) : ∀ (k n : Nat), k ≤ n → win k (l.take n) = win k l := by
  induction l with
  | nil => intros; simp
  | cons d r ih =>
    intro k n h
    cases k with
    | zero => rfl
    | succ k =>
      obtain ⟨m, rfl⟩ : ∃ m, n = m + 1 := ⟨n - 1, by omega⟩
      rw [List.take_succ_cons, win, win, ih k m (by omega)]

theorem bytes_step (N : Nat) (l : List Nat) (i b : Nat) (hi : l[i]? = some b) (hb : b < 2) (hN : i / 8 < N) :
    bytesN N (l.take (i + 1)) = (bytesN N (l.take i)).set (i / 8) (UInt8.ofNat (win 8 ((l.take i).drop (8 * (i / 8))) ||| b * 2 ^ (7 - i % 8))) := by
  have hlen : i < l.length := by
    rcases Nat.lt_or_ge i l.length with h | h
    · exact h
    · rw [List.getElem?_eq_none h] at hi
      simp at hi
  apply List.ext_getElem?
  intro k
  by_cases hk : k < N
  · rw [bytesN_get N _ k hk]
    by_cases he : k = i / 8
    · subst he
      rw [List.getElem?_set_self (by rw [bytesN_length]; exact hN)]
      congr 2
      have e1 : (l.take (i + 1)).drop (8 * (i / 8)) = (l.take i).drop (8 * (i / 8)) ++ [b] := by
        rw [List.take_add_one, hi, List.drop_append_of_le_length (by rw [List.length_take]; omega)]
        rfl
      have e2 : ((l.take i).drop (8 * (i / 8))).length = i % 8 := by
        rw [List.length_drop, List.length_take]
        omega
      rw [e1, win_or _ b hb (by omega), e2]
    · rw [List.getElem?_set_ne (by omega), bytesN_get N _ k hk]
      congr 2
      rcases Nat.lt_or_ge k (i / 8) with h | h
      · rw [List.drop_take, List.drop_take, win_take _ 8 _ (by omega), win_take _ 8 _ (by omega)]
      · rw [List.drop_eq_nil_iff.2 (by rw [List.length_take]; omega), List.drop_eq_nil_iff.2 (by rw [List.length_take]; omega)]
  · rw [List.getElem?_eq_none (by rw [bytesN_length]; omega), List.getElem?_eq_none (by rw [List.length_set, bytesN_length]; omega)]

theorem bytesN_nil : ∀ N, bytesN N [] = List.replicate N 0
  | 0 => rfl
  | N + 1 => by
    rw [bytesN, List.drop_nil, bytesN_nil N, win_nil, List.replicate_succ]
    rfl

/-! ### Where a bit of a number stands -/
theorem dig_eq {a k : Nat} (h1 : 2 ^ k ≤ a) (h2 : a < 2 ^ (k + 1)) (hk : k ≤ 62) : dig a = k + 1 := by
  have hp : (1 : Nat) ≤ 2 ^ k := Nat.pow_pos (by omega)
  have h64 : a < 2 ^ 64 := Nat.lt_of_lt_of_le h2 (Nat.pow_le_pow_right (by omega) (by omega))
  obtain ⟨a1, b1, c1⟩ := Lib.bitLenAux_bounds 64 a (by omega) (by omega)
  have e : dig a = Lib.bitLenAux 64 a := rfl
  rw [e]
  generalize Lib.bitLenAux 64 a = d at *
  rcases Nat.lt_or_ge d (k + 1) with h | h
  · have := Nat.pow_le_pow_right (n := 2) (by omega) (show d ≤ k by omega)
    omega
  · rcases Nat.lt_or_ge (k + 1) d with h' | h'
    · have := Nat.pow_le_pow_right (n := 2) (by omega) (show k + 1 ≤ d - 1 by omega)
      omega
    · omega

theorem stq_zero {j : Nat} (hj : j ≤ 60) : stq (2 ^ j) 0 = 2 ^ (j + 1) := by
  have e : 2 * 2 ^ j + 0 = 2 ^ (j + 1) := by rw [Nat.pow_succ]; omega
  have hd : dig (2 ^ (j + 1)) = j + 2 := dig_eq (Nat.le_refl _) (Nat.pow_lt_pow_right (by omega) (by omega)) (by omega)
  unfold stq whole numAt
  rw [e, hd, show j + 2 - 1 = j + 1 from rfl, Nat.sub_self]
  have h0 : dig 0 = 0 := by decide
  rw [h0, if_neg (by simp)]

theorem stq_one {j : Nat} (hj : j ≤ 60) : stq (2 ^ j) 1 = if j = 0 then 1 else 2 ^ (j + 1) + 1 := by
  have hp : (1 : Nat) ≤ 2 ^ j := Nat.pow_pos (by omega)
  have e : 2 * 2 ^ j + 1 = 2 ^ (j + 1) + 1 := by rw [Nat.pow_succ]; omega
  have hd : dig (2 ^ (j + 1) + 1) = j + 2 := dig_eq (Nat.le_succ _) (by rw [Nat.pow_succ 2 (j + 1), Nat.pow_succ]; omega) (by omega)
  unfold stq whole numAt
  rw [e, hd, show j + 2 - 1 = j + 1 from rfl, Nat.add_sub_cancel_left]
  have h1 : dig 1 = 1 := by decide
  rw [h1]
  by_cases h : j = 0
  · subst h
    rfl
  · rw [if_neg (by simp; omega), if_neg h]

theorem stq_digit {z i v b : Nat} (hz : z ≤ 30) (hi : i < z) (hv : 2 ^ i ≤ v) (hv2 : v < 2 ^ (i + 1)) (hb : b < 2) : stq (2 ^ (z + 1 + i) + v) b = if i + 1 = z then 1 else 2 ^ (z + 1 + (i + 1)) + (2 * v + b) := by
  have e : 2 * (2 ^ (z + 1 + i) + v) + b = 2 ^ (z + 1 + (i + 1)) + (2 * v + b) := by rw [show z + 1 + (i + 1) = z + 1 + i + 1 from rfl, Nat.pow_succ]; omega
  have hw1 : 2 ^ (i + 1) ≤ 2 * v + b := by rw [Nat.pow_succ]; omega
  have hw2 : 2 * v + b < 2 ^ (i + 1 + 1) := by rw [Nat.pow_succ]; omega
  have hle : 2 ^ (i + 1 + 1) ≤ 2 ^ (z + 1 + (i + 1)) := Nat.pow_le_pow_right (by omega) (by omega)
  have hd : dig (2 ^ (z + 1 + (i + 1)) + (2 * v + b)) = z + 1 + (i + 1) + 1 := dig_eq (by omega) (by rw [Nat.pow_succ]; omega) (by omega)
  have hd2 : dig (2 * v + b) = i + 1 + 1 := dig_eq hw1 hw2 (by omega)
  unfold stq whole numAt
  rw [e, hd, Nat.add_sub_cancel, Nat.add_sub_cancel_left, hd2]
  by_cases h : i + 1 = z
  · rw [if_pos (by simp; omega), if_pos h]
  · rw [if_neg (by simp; omega), if_neg h]
end Go.Proofs.YtkiindkoiomieaaGreatDoor.Co
end

section
/-
  Plain mathematics of P5: there and back. Nothing of the program.
-/
namespace Go.Proofs.YtkiindkoiomieaaGreatDoor

theorem behind_front : ∀ (s l : List UInt8), Full l → behindL l (frontL l s) = s
  | [], _, _ => rfl
  | c :: s, l, h => by
    have hi := idx_lt h c
    have e : (UInt8.ofNat (l.idxOf c)).toNat = l.idxOf c := by simp; omega
    have hl : l.idxOf c < l.length := by rw [h.1]; exact hi
    rw [frontL, behindL, e, behind_front s _ (h.mtf hi), List.getElem?_eq_getElem hl, List.getElem_idxOf hl]
    rfl

theorem front_inj {s t : List UInt8} (h : frontL (part 256) s = frontL (part 256) t) : s = t := by
  rw [← behind_front s _ full_part, ← behind_front t _ full_part, h]

theorem front_length : ∀ (s l : List UInt8), (frontL l s).length = s.length
  | [], _ => rfl
  | c :: s, l => by rw [frontL, List.length_cons, List.length_cons, front_length s]
end Go.Proofs.YtkiindkoiomieaaGreatDoor
end

section
/-
  Plain mathematics of P7: what is packed is unpacked. Nothing of the program.
-/
namespace Go.Proofs.YtkiindkoiomieaaGreatDoor.Co

/-- Turned, these bytes are those. -/
def TurnOf (d t : List UInt8) : Prop := ∃ ws, Duv.Good ws ∧ ws.flatten = d ∧ Tur.Turned ws t

theorem TurnOf.uniq {d t u : List UInt8} (h1 : TurnOf d t) (h2 : TurnOf d u) : t = u := by
  obtain ⟨ws, g1, f1, t1⟩ := h1
  obtain ⟨us, g2, f2, t2⟩ := h2
  have e := Tur.good_unique us ws g2 g1 (f2.trans f1.symm)
  subst e
  exact t1.unique t2
theorem TurnOf.inj {d e t : List UInt8} (h1 : TurnOf d t) (h2 : TurnOf e t) : d = e := by
  obtain ⟨ws, g1, f1, t1⟩ := h1
  obtain ⟨us, g2, f2, t2⟩ := h2
  have e := Tur.turned_inj g1 g2 t1 t2
  subst e
  exact f1.symm.trans f2
theorem TurnOf.length {d t : List UInt8} (h : TurnOf d t) : t.length = d.length := by
  obtain ⟨ws, g1, f1, t1⟩ := h
  rw [t1.length, f1]

/-! ### Packed -/
def toldB (x : List UInt8) : List UInt8 := bytesF (gbitsL (tell x))
def likelyB (x : List UInt8) : List UInt8 := bytesF (wr0.code (gbitsL (tell x)) 0)
/-- The shorter of two, with its kind. -/
def pick1 (d told : List UInt8) : UInt8 × List UInt8 := if told.length < d.length then (1, told) else (0, d)
def pick2 (k : UInt8 × List UInt8) (likely : List UInt8) : UInt8 × List UInt8 := if likely.length < k.2.length then (2, likely) else k
def packX (d x : List UInt8) : List UInt8 := (pick2 (pick1 d (toldB x)) (likelyB x)).1 :: (pick2 (pick1 d (toldB x)) (likelyB x)).2
def PackOf (d p : List UInt8) : Prop := ∃ t, TurnOf d t ∧ p = packX d (frontL (part 256) t)

theorem PackOf.uniq {d p q : List UInt8} (h1 : PackOf d p) (h2 : PackOf d q) : p = q := by
  obtain ⟨t, ht, rfl⟩ := h1
  obtain ⟨u, hu, rfl⟩ := h2
  rw [ht.uniq hu]

theorem packX_length (d x : List UInt8) : (packX d x).length ≤ d.length + 1 ∧ (packX d x).length ≤ ((gbitsL (tell x)).length + 7) / 8 + 1 := by
  have h := bytesF_length (gbitsL (tell x))
  have e : (toldB x).length = ((gbitsL (tell x)).length + 7) / 8 := h
  unfold packX pick2 pick1
  rw [List.length_cons, ← e]
  generalize (gbitsL (tell x)).length = n at *
  by_cases h1 : (toldB x).length < d.length
  · rw [if_pos h1]
    simp only
    by_cases h2 : (likelyB x).length < (toldB x).length
    · rw [if_pos h2]
      simp only
      omega
    · rw [if_neg h2]
      simp only
      omega
  · rw [if_neg h1]
    simp only
    by_cases h2 : (likelyB x).length < d.length
    · rw [if_pos h2]
      simp only
      omega
    · rw [if_neg h2]
      simp only
      omega

/-! ### Unpacked -/
def chk (d : List UInt8) (size : Nat) : Option (List UInt8) := if d.length = size then some d else none
/-- Places turned back. -/
def BackTo (size : Nat) (o : Option (List UInt8)) (r : Option (List UInt8)) : Prop := match o with
  | none => r = none
  | some x => ∃ b, TurnOf b (behindL (part 256) x) ∧ r = chk b size
/-- The reader at the beginning. -/
def re0 (bits : List Nat) : Re := wr0.reader bits
def UnOf (p : List UInt8) (size : Nat) (r : Option (List UInt8)) : Prop := match p with
  | [] => r = none
  | k :: data => if k = 2 then BackTo size (placesG Re.next size size [] (re0 (bitsF data))) r
    else if k = 1 then BackTo size (placesG nxL size size [] (bitsF data)) r
    else if k = 0 then r = chk data size else r = none

theorem BackTo.uniq {size : Nat} {o r s : Option (List UInt8)} (h1 : BackTo size o r) (h2 : BackTo size o s) : r = s := by
  cases o with
  | none => exact h1.trans h2.symm
  | some x =>
    obtain ⟨b, hb, rfl⟩ := h1
    obtain ⟨c, hc, rfl⟩ := h2
    rw [hb.inj hc]

theorem UnOf.uniq {p : List UInt8} {size : Nat} {r s : Option (List UInt8)} (h1 : UnOf p size r) (h2 : UnOf p size s) : r = s := by
  cases p with
  | nil => exact Eq.trans h1 (Eq.symm h2)
  | cons k data =>
    unfold UnOf at h1 h2
    simp only at h1 h2
    by_cases k2 : k = 2
    · rw [if_pos k2] at h1 h2
      exact h1.uniq h2
    · rw [if_neg k2] at h1 h2
      by_cases k1 : k = 1
      · rw [if_pos k1] at h1 h2
        exact h1.uniq h2
      · rw [if_neg k1] at h1 h2
        by_cases k0 : k = 0
        · rw [if_pos k0] at h1 h2
          exact h1.trans h2.symm
        · rw [if_neg k0] at h1 h2
          exact h1.trans h2.symm

theorem chk_length {d e : List UInt8} {size : Nat} (h : chk d size = some e) : e.length = size := by
  unfold chk at h
  split at h
  · simp at h
    rw [← h]
    assumption
  · simp at h

theorem BackTo.size {size : Nat} {o : Option (List UInt8)} {d : List UInt8} (h : BackTo size o (some d)) : d.length = size := by
  cases o with
  | none => cases h
  | some x =>
    obtain ⟨b, _, hb⟩ := h
    exact chk_length hb.symm

theorem UnOf.size {p : List UInt8} {size : Nat} {d : List UInt8} (h : UnOf p size (some d)) : d.length = size := by
  cases p with
  | nil => cases h
  | cons k data =>
    unfold UnOf at h
    simp only at h
    by_cases k2 : k = 2
    · rw [if_pos k2] at h
      exact h.size
    · rw [if_neg k2] at h
      by_cases k1 : k = 1
      · rw [if_pos k1] at h
        exact h.size
      · rw [if_neg k1] at h
        by_cases k0 : k = 0
        · rw [if_pos k0] at h
          exact chk_length h.symm
        · rw [if_neg k0] at h
          cases h

theorem chk_self (d : List UInt8) : chk d d.length = some d := by
  unfold chk
  rw [if_pos rfl]

theorem back_front {d t : List UInt8} (h : TurnOf d t) {r : Option (List UInt8)} (hr : BackTo d.length (some (frontL (part 256) t)) r) : r = some d := by
  obtain ⟨b, hb, rfl⟩ := hr
  rw [behind_front t (part 256) full_part] at hb
  rw [hb.inj h, chk_self]

theorem wr0_open : wr0.open := ⟨by decide, by decide, by decide⟩
theorem code_zeros (c : Wr) (l : List Nat) (z : Nat) : c.code l 0 ++ List.replicate z 0 = c.code l z := by
  unfold Wr.code
  simp

theorem unpack_pack {d p : List UInt8} {r : Option (List UInt8)} (hl : d.length ≤ 200) (hp : PackOf d p) (hr : UnOf p d.length r) : r = some d := by
  obtain ⟨t, ht, rfl⟩ := hp
  have hx : (frontL (part 256) t).length = d.length := by rw [front_length, ht.length]
  have hback := fun r => back_front (r := r) ht
  generalize hX : frontL (part 256) t = x at *
  have hpl : ∀ z, placesG nxL d.length d.length [] (gbitsL (tell x) ++ List.replicate z 0) = some x := fun z => by
    have := places_told d.length (List.replicate z 0) x 0 d.length [] (by simp; exact hx) (by omega) (by omega)
    rw [List.replicate_zero, List.append_nil, List.nil_append] at this
    exact this
  have hpick : packX d x = 2 :: likelyB x ∨ packX d x = 1 :: toldB x ∨ packX d x = 0 :: d := by
    unfold packX pick2 pick1
    by_cases h1 : (toldB x).length < d.length
    · rw [if_pos h1]
      split
      · exact .inl rfl
      · exact .inr (.inl rfl)
    · rw [if_neg h1]
      split
      · exact .inl rfl
      · exact .inr (.inr rfl)
  rcases hpick with e | e | e
  · rw [e] at hr
    unfold UnOf at hr
    simp only at hr
    rw [if_pos trivial] at hr
    have hcb := code_bits wr0_open fo0_ok (gbitsL (tell x)) 0
    obtain ⟨z, hz⟩ := bits_bytes (wr0.code (gbitsL (tell x)) 0) hcb
    have hz2 : bitsF (likelyB x) = wr0.code (gbitsL (tell x)) z := by
      unfold likelyB
      rw [hz, code_zeros]
    rw [hz2] at hr
    have hs := places_sim (nx := nxL) (ny := Re.next) (fun l q => ∃ (c : Wr) (n : Nat), c.open ∧ c.fo.Ok n ∧ (∀ b ∈ l, b < 2) ∧ q = c.reader (c.code l z)) (by
      rintro l q b l' ⟨c, n, ho, hf, hb, rfl⟩ h
      cases l with
      | nil => simp [nxL] at h
      | cons a r =>
        simp only [nxL, Option.some.injEq, Prod.mk.injEq] at h
        obtain ⟨rfl, rfl⟩ := h
        exact ⟨_, next_code c n a r z (hb a (by simp)) ho hf, c.step a, n + 1, step_open ho hf a, hf.pass a, fun y hy => hb y (by simp [hy]), rfl⟩) d.length d.length [] (gbitsL (tell x)) (re0 (wr0.code (gbitsL (tell x)) z)) x ⟨wr0, 0, wr0_open, fo0_ok, gbitsL_bits _, rfl⟩ (by simpa using hpl 0)
    rw [hs] at hr
    exact hback r hr
  · rw [e] at hr
    unfold UnOf at hr
    simp only at hr
    rw [if_neg (by decide), if_pos trivial] at hr
    obtain ⟨z, hz⟩ := bits_bytes (gbitsL (tell x)) (gbitsL_bits _)
    have hz2 : bitsF (toldB x) = gbitsL (tell x) ++ List.replicate z 0 := hz
    rw [hz2, hpl] at hr
    exact hback r hr
  · rw [e] at hr
    unfold UnOf at hr
    simp only at hr
    rw [if_neg (by decide), if_neg (by decide), if_pos trivial, chk_self] at hr
    exact hr
end Go.Proofs.YtkiindkoiomieaaGreatDoor.Co
end

