import Derived.Test.YtkiindkoiomieaaGreatDoorJ03
import Derived.Test.YtkiindkoiomieaaGreatDoorJ02
import Derived.Test.YtkiindkoiomieaaGreatDoorJ09
import Derived.Test.YtkiindkoiomieaaGreatDoorJ08
import Derived.Shelf.Abstract
import Derived.BigRegion
import Derived.BigQuiet
import Derived.Test.YtkiindkoiomieaaGreatDoorJ05
section
/-
  Plain mathematics of P7: what is packed is unpacked. Nothing of the program.
-/
namespace Go.Proofs.YtkiindkoiomieaaGreatDoor.Co

/-- Turned, these bytes are those. -/
def TurnOf (d t : List UInt8) : Prop := ∃ ws, Duv.Good ws ∧ ws.flatten = d ∧ Tur.Turned ws t

theorem TurnOf.uniq {d t u : List UInt8} (h1 : TurnOf d t) (h2 : TurnOf d u) : t = u := by
  obtain ⟨ws, g1, f1, t1⟩ := h1
  obtain ⟨us, g2, f2, t2⟩ := h2
  have e := Tur.good_unique us ws g2 g1 (f2.trans f1.symm)
  subst e
  exact t1.unique t2
theorem TurnOf.inj {d e t : List UInt8} (h1 : TurnOf d t) (h2 : TurnOf e t) : d = e := by
  obtain ⟨ws, g1, f1, t1⟩ := h1
  obtain ⟨us, g2, f2, t2⟩ := h2
  have e := Tur.turned_inj g1 g2 t1 t2
  subst e
  exact f1.symm.trans f2
theorem TurnOf.length {d t : List UInt8} (h : TurnOf d t) : t.length = d.length := by
  obtain ⟨ws, g1, f1, t1⟩ := h
  rw [t1.length, f1]

/-! ### Packed -/
def toldB (x : List UInt8) : List UInt8 := bytesF (gbitsL (tell x))
def likelyB (x : List UInt8) : List UInt8 := bytesF (wr0.code (gbitsL (tell x)) 0)
/-- The shorter of two, with its kind. -/
def pick1 (d told : List UInt8) : UInt8 × List UInt8 := if told.length < d.length then (1, told) else (0, d)
def pick2 (k : UInt8 × List UInt8) (likely : List UInt8) : UInt8 × List UInt8 := if likely.length < k.2.length then (2, likely) else k
def packX (d x : List UInt8) : List UInt8 := (pick2 (pick1 d (toldB x)) (likelyB x)).1 :: (pick2 (pick1 d (toldB x)) (likelyB x)).2
def PackOf (d p : List UInt8) : Prop := ∃ t, TurnOf d t ∧ p = packX d (frontL (part 256) t)

theorem PackOf.uniq {d p q : List UInt8} (h1 : PackOf d p) (h2 : PackOf d q) : p = q := by
  obtain ⟨t, ht, rfl⟩ := h1
  obtain ⟨u, hu, rfl⟩ := h2
  rw [ht.uniq hu]

theorem packX_length (d x : List UInt8) : (packX d x).length ≤ d.length + 1 ∧ (packX d x).length ≤ ((gbitsL (tell x)).length + 7) / 8 + 1 := by
  have h := bytesF_length (gbitsL (tell x))
  have e : (toldB x).length = ((gbitsL (tell x)).length + 7) / 8 := h
  unfold packX pick2 pick1
  rw [List.length_cons, ← e]
  generalize (gbitsL (tell x)).length = n at *
  by_cases h1 : (toldB x).length < d.length
  · rw [if_pos h1]
    simp only
    by_cases h2 : (likelyB x).length < (toldB x).length
    · rw [if_pos h2]
      simp only
      omega
    · rw [if_neg h2]
      simp only
      omega
  · rw [if_neg h1]
    simp only
    by_cases h2 : (likelyB x).length < d.length
    · rw [if_pos h2]
      simp only
      omega
    · rw [if_neg h2]
      simp only
      omega

/-! ### Unpacked -/
def chk (d : List UInt8) (size : Nat) : Option (List UInt8) := if d.length = size then some d else none
/-- Places turned back. -/
def BackTo (size : Nat) (o : Option (List UInt8)) (r : Option (List UInt8)) : Prop := match o with
  | none => r = none
  | some x => ∃ b, TurnOf b (behindL (part 256) x) ∧ r = chk b size
/-- The reader at the beginning. -/
def re0 (bits : List Nat) : Re := wr0.reader bits
def UnOf (p : List UInt8) (size : Nat) (r : Option (List UInt8)) : Prop := match p with
  | [] => r = none
  | k :: data => if k = 2 then BackTo size (placesG Re.next size size [] (re0 (bitsF data))) r
    else if k = 1 then BackTo size (placesG nxL size size [] (bitsF data)) r
    else if k = 0 then r = chk data size else r = none

theorem BackTo.uniq {size : Nat} {o r s : Option (List UInt8)} (h1 : BackTo size o r) (h2 : BackTo size o s) : r = s := by
  cases o with
  | none => exact h1.trans h2.symm
  | some x =>
    obtain ⟨b, hb, rfl⟩ := h1
    obtain ⟨c, hc, rfl⟩ := h2
    rw [hb.inj hc]

theorem UnOf.uniq {p : List UInt8} {size : Nat} {r s : Option (List UInt8)} (h1 : UnOf p size r) (h2 : UnOf p size s) : r = s := by
  cases p with
  | nil => exact Eq.trans h1 (Eq.symm h2)
  | cons k data =>
    unfold UnOf at h1 h2
    simp only at h1 h2
    by_cases k2 : k = 2
    · rw [if_pos k2] at h1 h2
      exact h1.uniq h2
    · rw [if_neg k2] at h1 h2
      by_cases k1 : k = 1
      · rw [if_pos k1] at h1 h2
        exact h1.uniq h2
      · rw [if_neg k1] at h1 h2
        by_cases k0 : k = 0
        · rw [if_pos k0] at h1 h2
          exact h1.trans h2.symm
        · rw [if_neg k0] at h1 h2
          exact h1.trans h2.symm

theorem chk_length {d e : List UInt8} {size : Nat} (h : chk d size = some e) : e.length = size := by
  unfold chk at h
  split at h
  · simp at h
    rw [← h]
    assumption
  · simp at h

theorem BackTo.size {size : Nat} {o : Option (List UInt8)} {d : List UInt8} (h : BackTo size o (some d)) : d.length = size := by
  cases o with
  | none => cases h
  | some x =>
    obtain ⟨b, _, hb⟩ := h
    exact chk_length hb.symm

theorem UnOf.size {p : List UInt8} {size : Nat} {d : List UInt8} (h : UnOf p size (some d)) : d.length = size := by
  cases p with
  | nil => cases h
  | cons k data =>
    unfold UnOf at h
    simp only at h
    by_cases k2 : k = 2
    · rw [if_pos k2] at h
      exact h.size
    · rw [if_neg k2] at h
      by_cases k1 : k = 1
      · rw [if_pos k1] at h
        exact h.size
      · rw [if_neg k1] at h
        by_cases k0 : k = 0
        · rw [if_pos k0] at h
          exact chk_length h.symm
        · rw [if_neg k0] at h
          cases h

theorem chk_self (d : List UInt8) : chk d d.length = some d := by
  unfold chk
  rw [if_pos rfl]

theorem back_front {d t : List UInt8} (h : TurnOf d t) {r : Option (List UInt8)} (hr : BackTo d.length (some (frontL (part 256) t)) r) : r = some d := by
  obtain ⟨b, hb, rfl⟩ := hr
  rw [behind_front t (part 256) full_part] at hb
  rw [hb.inj h, chk_self]

theorem wr0_open : wr0.open := ⟨by decide, by decide, by decide⟩
theorem code_zeros (c : Wr) (l : List Nat) (z : Nat) : c.code l 0 ++ List.replicate z 0 = c.code l z := by
  unfold Wr.code
  simp

theorem unpack_pack {d p : List UInt8} {r : Option (List UInt8)} (hl : d.length ≤ 200) (hp : PackOf d p) (hr : UnOf p d.length r) : r = some d := by
  obtain ⟨t, ht, rfl⟩ := hp
  have hx : (frontL (part 256) t).length = d.length := by rw [front_length, ht.length]
  have hback := fun r => back_front (r := r) ht
  generalize hX : frontL (part 256) t = x at *
  have hpl : ∀ z, placesG nxL d.length d.length [] (gbitsL (tell x) ++ List.replicate z 0) = some x := fun z => by
    have := places_told d.length (List.replicate z 0) x 0 d.length [] (by simp; exact hx) (by omega) (by omega)
    rw [List.replicate_zero, List.append_nil, List.nil_append] at this
    exact this
  have hpick : packX d x = 2 :: likelyB x ∨ packX d x = 1 :: toldB x ∨ packX d x = 0 :: d := by
    unfold packX pick2 pick1
    by_cases h1 : (toldB x).length < d.length
    · rw [if_pos h1]
      split
      · exact .inl rfl
      · exact .inr (.inl rfl)
    · rw [if_neg h1]
      split
      · exact .inl rfl
      · exact .inr (.inr rfl)
  rcases hpick with e | e | e
  · rw [e] at hr
    unfold UnOf at hr
    simp only at hr
    rw [if_pos trivial] at hr
    have hcb := code_bits wr0_open fo0_ok (gbitsL (tell x)) 0
    obtain ⟨z, hz⟩ := bits_bytes (wr0.code (gbitsL (tell x)) 0) hcb
    have hz2 : bitsF (likelyB x) = wr0.code (gbitsL (tell x)) z := by
      unfold likelyB
      rw [hz, code_zeros]
    rw [hz2] at hr
    have hs := places_sim (nx := nxL) (ny := Re.next) (fun l q => ∃ (c : Wr) (n : Nat), c.open ∧ c.fo.Ok n ∧ (∀ b ∈ l, b < 2) ∧ q = c.reader (c.code l z)) (by
      rintro l q b l' ⟨c, n, ho, hf, hb, rfl⟩ h
      cases l with
      | nil => simp [nxL] at h
      | cons a r =>
        simp only [nxL, Option.some.injEq, Prod.mk.injEq] at h
        obtain ⟨rfl, rfl⟩ := h
        exact ⟨_, next_code c n a r z (hb a (by simp)) ho hf, c.step a, n + 1, step_open ho hf a, hf.pass a, fun y hy => hb y (by simp [hy]), rfl⟩) d.length d.length [] (gbitsL (tell x)) (re0 (wr0.code (gbitsL (tell x)) z)) x ⟨wr0, 0, wr0_open, fo0_ok, gbitsL_bits _, rfl⟩ (by simpa using hpl 0)
    rw [hs] at hr
    exact hback r hr
  · rw [e] at hr
    unfold UnOf at hr
    simp only at hr
    rw [if_neg (by decide), if_pos trivial] at hr
    obtain ⟨z, hz⟩ := bits_bytes (gbitsL (tell x)) (gbitsL_bits _)
    have hz2 : bitsF (toldB x) = gbitsL (tell x) ++ List.replicate z 0 := hz
    rw [hz2, hpl] at hr
    exact hback r hr
  · rw [e] at hr
    unfold UnOf at hr
    simp only at hr
    rw [if_neg (by decide), if_neg (by decide), if_pos trivial, chk_self] at hr
    exact hr
end Go.Proofs.YtkiindkoiomieaaGreatDoor.Co
end

section
/-
  Plain mathematics of P8 and P9: frames. Nothing of the program.
-/
namespace Go.Proofs.YtkiindkoiomieaaGreatDoor.Co

/-! ### The sum -/
def crcStep (c : Nat) : Nat := if c % 2 = 1 then c / 2 ^^^ 3988292384 else c / 2
def crcSteps : Nat → Nat → Nat
  | 0, c => c
  | k + 1, c => crcSteps k (crcStep c)
def crcByte (c : Nat) (b : UInt8) : Nat := crcSteps 8 (c ^^^ b.toNat)
def crcL : Nat → List UInt8 → Nat
  | c, [] => c
  | c, b :: r => crcL (crcByte c b) r
def crcF (l : List UInt8) : Nat := crcL 4294967295 l ^^^ 4294967295

theorem xor_lt {a b : Nat} (ha : a < 4294967296) (hb : b < 4294967296) : a ^^^ b < 4294967296 := Nat.xor_lt_two_pow (n := 32) ha hb
theorem crcStep_lt {c : Nat} (h : c < 4294967296) : crcStep c < 4294967296 := by
  unfold crcStep
  split
  · exact xor_lt (by omega) (by omega)
  · omega
theorem crcSteps_lt : ∀ (k : Nat) {c : Nat}, c < 4294967296 → crcSteps k c < 4294967296
  | 0, _, h => h
  | k + 1, _, h => crcSteps_lt k (crcStep_lt h)
theorem crcByte_lt {c : Nat} (h : c < 4294967296) (b : UInt8) : crcByte c b < 4294967296 := crcSteps_lt 8 (xor_lt h (by have := b.toNat_lt; omega))
theorem crcL_lt : ∀ (l : List UInt8) {c : Nat}, c < 4294967296 → crcL c l < 4294967296
  | [], _, h => h
  | b :: r, _, h => crcL_lt r (crcByte_lt h b)
theorem crcF_lt (l : List UInt8) : crcF l < 4294967296 := xor_lt (crcL_lt l (by omega)) (by omega)
theorem crcL_snoc : ∀ (l : List UInt8) (c : Nat) (b : UInt8), crcL c (l ++ [b]) = crcByte (crcL c l) b
  | [], _, _ => rfl
  | a :: l, c, b => crcL_snoc l (crcByte c a) b
theorem crcSteps_snoc : ∀ (k c : Nat), crcSteps (k + 1) c = crcStep (crcSteps k c)
  | 0, _ => rfl
  | k + 1, c => crcSteps_snoc k (crcStep c)

/-! ### Numbers, the lowest byte first -/
def leN : List UInt8 → Nat
  | [] => 0
  | c :: r => c.toNat + 256 * leN r
def leB : Nat → Nat → List UInt8
  | 0, _ => []
  | k + 1, n => UInt8.ofNat (n % 256) :: leB k (n / 256)

theorem leB_length : ∀ k n, (leB k n).length = k
  | 0, _ => rfl
  | k + 1, n => by rw [leB, List.length_cons, leB_length k]
theorem leN_leB : ∀ k n, n < 256 ^ k → leN (leB k n) = n
  | 0, n, h => by simp at h; subst h; rfl
  | k + 1, n, h => by
    rw [Nat.pow_succ] at h
    rw [leB, leN, leN_leB k (n / 256) ((Nat.div_lt_iff_lt_mul (by omega)).2 h)]
    have : (UInt8.ofNat (n % 256)).toNat = n % 256 := by simp
    rw [this]
    omega
theorem leN_lt : ∀ l : List UInt8, leN l < 256 ^ l.length
  | [] => by simp [leN]
  | c :: r => by
    have := leN_lt r
    have := c.toNat_lt
    rw [leN, List.length_cons, Nat.pow_succ]
    omega
theorem leN_snoc : ∀ (l : List UInt8) (c : UInt8), leN (l ++ [c]) = leN l + 256 ^ l.length * c.toNat
  | [], c => by simp [leN]
  | a :: l, c => by
    rw [List.cons_append, leN, leN_snoc l c, leN, List.length_cons, Nat.pow_succ, Nat.mul_add, ← Nat.mul_assoc, Nat.mul_comm 256 (256 ^ l.length)]
    omega
theorem leB_snoc : ∀ (k n : Nat), leB (k + 1) n = leB k n ++ [UInt8.ofNat (n / 256 ^ k % 256)]
  | 0, n => by simp [leB]
  | k + 1, n => by
    rw [leB, leB_snoc k (n / 256), leB, List.cons_append, Nat.div_div_eq_div_mul, Nat.pow_succ, Nat.mul_comm 256 (256 ^ k)]

/-! ### Frames -/
structure Fr where
  size : Nat
  sum : Nat
  packed : List UInt8
/-- The blocks behind the head up to the first thing that is wrong, and what that is. -/
def framesG : Nat → Nat → List UInt8 → List Fr × Nat
  | 0, _, _ => ([], 6)
  | f + 1, all, l => if l.length < 2 then ([], 6) else
    if leN (l.take 2) = 0 then (if (l.drop 2).length = 0 then ([], 0) else ([], 8)) else
    if 200 < leN (l.take 2) ∨ 300 < all + leN (l.take 2) then ([], 4) else
    if (l.drop 2).length < 6 then ([], 6) else
    if (l.drop 2).length < 6 + leN (((l.drop 2).drop 4).take 2) then ([], 6) else
    (⟨leN (l.take 2), leN ((l.drop 2).take 4), ((l.drop 2).drop 6).take (leN (((l.drop 2).drop 4).take 2))⟩ :: (framesG f (all + leN (l.take 2)) ((l.drop 2).drop (6 + leN (((l.drop 2).drop 4).take 2)))).1,
      (framesG f (all + leN (l.take 2)) ((l.drop 2).drop (6 + leN (((l.drop 2).drop 4).take 2)))).2)
def headL : List UInt8 := [84, 87, 78, 49]
def framesF (l : List UInt8) : List Fr × Nat := if 4000 < l.length then ([], 1) else if l.take 4 = headL then framesG 501 0 (l.drop 4) else ([], 5)

/-- What the blocks stand for, joined; or the first thing that is wrong. -/
def Join : List Fr → Nat → List UInt8 → List UInt8 × Nat → Prop
  | [], e, acc, r => r = if e = 0 then (acc, 0) else ([], e)
  | b :: l, e, acc, r => ∃ u, UnOf b.packed b.size u ∧ (match u with
    | none => r = ([], 4)
    | some d => if crcF d = b.sum then Join l e (acc ++ d) r else r = ([], 7))

theorem Join.uniq : ∀ {l : List Fr} {e : Nat} {acc : List UInt8} {r s : List UInt8 × Nat}, Join l e acc r → Join l e acc s → r = s
  | [], _, _, _, _, h1, h2 => Eq.trans h1 (Eq.symm h2)
  | b :: l, e, acc, r, s, ⟨u, hu, h1⟩, ⟨v, hv, h2⟩ => by
    have := hu.uniq hv
    subst this
    cases u with
    | none => exact Eq.trans h1 (Eq.symm h2)
    | some d =>
      simp only at h1 h2
      by_cases hc : crcF d = b.sum
      · rw [if_pos hc] at h1 h2
        exact Join.uniq h1 h2
      · rw [if_neg hc] at h1 h2
        exact h1.trans h2.symm

/-! ### Bytes in blocks -/
/-- One block. -/
def blockB (d p : List UInt8) : List UInt8 := leB 2 d.length ++ leB 4 (crcF d) ++ leB 2 p.length ++ p
/-- Bytes in blocks of so many each, and what each one is packed. -/
inductive Blocks (block : Nat) : List UInt8 → List (List UInt8 × List UInt8) → Prop
  | nil : Blocks block [] []
  | cons {d : List UInt8} {p : List UInt8} {l : List (List UInt8 × List UInt8)} (h : d ≠ []) (hp : PackOf (d.take block) p) (hr : Blocks block (d.drop block) l) : Blocks block d ((d.take block, p) :: l)
def textB (l : List (List UInt8 × List UInt8)) : List UInt8 := (l.map fun x => blockB x.1 x.2).flatten
def framedB (l : List (List UInt8 × List UInt8)) : List UInt8 := headL ++ textB l ++ [0, 0]

theorem Blocks.uniq {block : Nat} : ∀ {d : List UInt8} {l m : List (List UInt8 × List UInt8)}, Blocks block d l → Blocks block d m → l = m := by
  intro d l m h1
  induction h1 generalizing m with
  | nil =>
    intro h2
    cases h2 with
    | nil => rfl
    | cons h _ _ => exact absurd rfl h
  | cons h hp hr ih =>
    intro h2
    cases h2 with
    | nil => exact absurd rfl h
    | cons h' hp' hr' => rw [hp.uniq hp', ih hr']
theorem packOf_length {d p : List UInt8} (h : PackOf d p) : p.length ≤ d.length + 1 := by
  obtain ⟨t, _, rfl⟩ := h
  exact (packX_length d _).1
theorem blockB_length (d p : List UInt8) : (blockB d p).length = 8 + p.length := by
  unfold blockB
  simp [leB_length]
  omega
theorem Blocks.text_length {block : Nat} (hb : 1 ≤ block) {d : List UInt8} {l : List (List UInt8 × List UInt8)} (h : Blocks block d l) : (textB l).length ≤ 10 * d.length := by
  induction h with
  | nil => simp [textB]
  | @cons d p l hd hp hr ih =>
    have h1 := packOf_length hp
    have e : textB ((d.take block, p) :: l) = blockB (d.take block) p ++ textB l := by simp [textB]
    rw [e, List.length_append, blockB_length]
    rw [List.length_drop] at ih
    rw [List.length_take] at h1
    have : 0 < d.length := List.length_pos_iff.2 hd
    omega

/-- A block at the head of a text. -/
theorem frames_block (f all : Nat) (d p rest : List UInt8) (h0 : d ≠ []) (h1 : d.length ≤ 200) (h2 : all + d.length ≤ 300) (hp : p.length < 65536) :
    framesG (f + 1) all (blockB d p ++ rest) = (⟨d.length, crcF d, p⟩ :: (framesG f (all + d.length) rest).1, (framesG f (all + d.length) rest).2) := by
  have hd0 : 0 < d.length := List.length_pos_iff.2 h0
  have a2 : (leB 2 d.length).length = 2 := leB_length 2 _
  have a4 : (leB 4 (crcF d)).length = 4 := leB_length 4 _
  have b2 : (leB 2 p.length).length = 2 := leB_length 2 _
  have e : blockB d p ++ rest = leB 2 d.length ++ (leB 4 (crcF d) ++ (leB 2 p.length ++ (p ++ rest))) := by simp [blockB]
  have t2 : (blockB d p ++ rest).take 2 = leB 2 d.length := by rw [e, List.take_left' a2]
  have r2 : (blockB d p ++ rest).drop 2 = leB 4 (crcF d) ++ (leB 2 p.length ++ (p ++ rest)) := by rw [e, List.drop_left' a2]
  have t4 : (leB 4 (crcF d) ++ (leB 2 p.length ++ (p ++ rest))).take 4 = leB 4 (crcF d) := List.take_left' a4
  have r4 : (leB 4 (crcF d) ++ (leB 2 p.length ++ (p ++ rest))).drop 4 = leB 2 p.length ++ (p ++ rest) := List.drop_left' a4
  have t6 : (leB 2 p.length ++ (p ++ rest)).take 2 = leB 2 p.length := List.take_left' b2
  have r6 : (leB 4 (crcF d) ++ (leB 2 p.length ++ (p ++ rest))).drop 6 = p ++ rest := by
    rw [← List.append_assoc]
    exact List.drop_left' (by rw [List.length_append, a4, b2])
  have n1 : leN (leB 2 d.length) = d.length := leN_leB 2 _ (by omega)
  have n2 : leN (leB 4 (crcF d)) = crcF d := leN_leB 4 _ (crcF_lt d)
  have n3 : leN (leB 2 p.length) = p.length := leN_leB 2 _ (by omega)
  have hl : ((blockB d p ++ rest).drop 2).length = 6 + p.length + rest.length := by
    rw [r2]
    simp [a4, b2]
    omega
  have hl0 : ¬ (blockB d p ++ rest).length < 2 := by rw [List.length_append, blockB_length]; omega
  have r7 : ((blockB d p ++ rest).drop 2).drop (6 + p.length) = rest := by
    rw [r2, ← List.drop_drop, r6, List.drop_left]
  rw [framesG, if_neg hl0, t2, n1, if_neg (by omega), if_neg (by omega), hl, if_neg (by omega), r2, r4, t6, n3, if_neg (by omega), t4, n2, r6, List.take_left, ← r2, r7]

theorem frames_end (f all : Nat) : framesG (f + 1) all [0, 0] = ([], 0) := by
  rw [framesG]
  rfl

theorem frames_text {block : Nat} (hb : 1 ≤ block) (hb2 : block ≤ 200) {d : List UInt8} {l : List (List UInt8 × List UInt8)} (h : Blocks block d l) : ∀ (f all : Nat), d.length < f → all + d.length ≤ 300 → framesG f all (textB l ++ [0, 0]) = (l.map fun x => ⟨x.1.length, crcF x.1, x.2⟩, 0) := by
  induction h with
  | nil =>
    intro f all hf _
    obtain ⟨f, rfl⟩ : ∃ g, f = g + 1 := ⟨f - 1, by omega⟩
    exact frames_end f all
  | @cons d p l hd hp hr ih =>
    intro f all hf hall
    obtain ⟨f, rfl⟩ : ∃ g, f = g + 1 := ⟨f - 1, by omega⟩
    have h1 := packOf_length hp
    have e : textB ((d.take block, p) :: l) ++ [0, 0] = blockB (d.take block) p ++ (textB l ++ [0, 0]) := by simp [textB]
    have h0 : 0 < d.length := List.length_pos_iff.2 hd
    have ht : (d.take block).length = min block d.length := List.length_take
    have hdr : (d.drop block).length = d.length - block := List.length_drop
    rw [e, frames_block f all (d.take block) p _ (by rw [← List.length_pos_iff, ht]; omega) (by omega) (by omega) (by omega), ih f (all + (d.take block).length) (by omega) (by omega)]
    rfl

theorem frames_framed {block : Nat} (hb : 1 ≤ block) (hb2 : block ≤ 200) {d : List UInt8} {l : List (List UInt8 × List UInt8)} (h : Blocks block d l) (hd : d.length ≤ 300) : framesF (framedB l) = (l.map fun x => ⟨x.1.length, crcF x.1, x.2⟩, 0) ∧ (framedB l).length ≤ 4000 := by
  have hl := h.text_length hb
  have hlen : (framedB l).length ≤ 4000 := by
    unfold framedB headL
    simp
    omega
  refine ⟨?_, hlen⟩
  have e : framedB l = headL ++ (textB l ++ [0, 0]) := by unfold framedB; rw [List.append_assoc]
  unfold framesF
  have h4 : headL.length = 4 := rfl
  rw [if_neg (by omega), e, if_pos (List.take_left' h4), List.drop_left' h4]
  exact frames_text hb hb2 h 501 0 (by omega) (by omega)

theorem join_framed {block : Nat} (hb2 : block ≤ 200) {d : List UInt8} {l : List (List UInt8 × List UInt8)} (h : Blocks block d l) : ∀ (acc : List UInt8) (r : List UInt8 × Nat), Join (l.map fun x => ⟨x.1.length, crcF x.1, x.2⟩) 0 acc r → r = (acc ++ d, 0) := by
  induction h with
  | nil =>
    intro acc r hr
    rw [List.append_nil]
    exact hr
  | @cons d p l hd hp hr ih =>
    intro acc r hj
    obtain ⟨u, hu, hj⟩ := hj
    have ht : (d.take block).length = min block d.length := List.length_take
    have := unpack_pack (by omega) hp hu
    subst this
    simp only at hj
    rw [if_pos trivial] at hj
    have := ih _ _ hj
    rw [this, List.append_assoc, List.take_append_drop]
end Go.Proofs.YtkiindkoiomieaaGreatDoor.Co
end

section
/-
  P7: putNumbers, whatever function the bits are handed to.
-/
namespace Go.Proofs.YtkiindkoiomieaaGreatDoor
open Go.RowKit

/-- What is asked of the function: of bits behind bits. -/
def Takes (F : Nat) (caps : Array Value) (J : Nat → List Nat → World → Prop) (B N : Nat) : Prop :=
  ∀ (q x : Nat) (out : List Nat) (w : World), x < 2 → 1 ≤ q → q < 2305843009213693952 → out.length < N → J q out w →
    Calls Tryz.prog F (#[.int .i64 (x : Int)] ++ caps) w fun e w' => e = .returned (.tuple #[]) ∧ J (Co.stq q x) (out ++ [x]) w' ∧ Below B w w'

set_option maxHeartbeats 2000000 in
set_option maxRecDepth 100000 in
theorem putNumbers_gen (F : Nat) (caps : Array Value) (eg : ∀ args w, (callFunc F args).run Tryz.prog w = .ok (.enter F args) w) (J : Nat → List Nat → World → Prop) (B N : Nat) (hp : Takes F caps J B N)
    (ao : Option Addr) (len cap : Nat) (zs : List Nat) (lb lo : Nat) (w : World) (hz : zs.length = len) (hr : ∀ z ∈ zs, 1 ≤ z ∧ z ≤ 1073741824) (hl : len ≤ 1000) (hN : (Co.gbitsL zs).length ≤ N)
    (hao : 0 < len → ao = some ⟨lb, lo, none⟩ ∧ lb < B) (hc : ∀ (j z : Nat), zs[j]? = some z → w.cell? ⟨lb, lo + j, none⟩ = some (.int .i64 (z : Int))) (h : J 1 [] w) :
    Calls Tryz.prog 38 #[.func (.func F) #[] caps, .slice ao len cap] w fun e w' => e = .returned (.tuple #[]) ∧ J 1 (Co.gbitsL zs) w' ∧ Below B w w' := by
  have HR := hide hr
  have HC := hide hc
  have HA := hide hao
  have HP := hide hp
  have HN := hide hN
  clear hr hc hao hp hN
  go_enter Tryz.func38, Tryz.ntmps38
  go_wp2
  go_loopw [10] (fun i wr => ∃ k : Nat, k ≤ len ∧ i = .int .i64 k ∧ J 1 (Co.gbitsL (zs.take k)) wr ∧ Below B w wr) (fun i _ => len - (intOf i).toNat)
  case atStart => exact ⟨0, Nat.zero_le _, rfl, h, Below.refl _ _⟩
  case round =>
    clear h
    obtain ⟨k, hk, rfl, hB, hbx⟩ := hrel
    by_cases hlt : k < len
    · obtain ⟨n, hzk⟩ : ∃ z, zs[k]? = some z := ⟨_, List.getElem?_eq_getElem (by omega)⟩
      obtain ⟨rfl, hlb⟩ := HA.out (by omega)
      have hzr := HR.out _ (List.mem_of_getElem? hzk)
      have hcell : wr.cell? ⟨lb, lo + k, none⟩ = some (.int .i64 n) := (hbx.cell (p := ⟨lb, lo + k, none⟩) hlb).trans (HC.out k _ hzk)
      have hdb := dig_bounds (n := n) (by omega) (by omega)
      have cLen := Tryz.bits_Len (n : Int) wr (by omega) (by omega)
      rw [Int.toNat_natCast] at cLen
      obtain ⟨z, hd⟩ : ∃ z, dig n = z + 1 := ⟨dig n - 1, by omega⟩
      have hd' : Lib.bitLen n = z + 1 := hd
      rw [hd'] at cLen
      rw [hd, Nat.add_sub_cancel] at hdb
      have HD := hide hd
      have CL := hide cLen
      have hw : IntKind.u64.wrap (n : Int) = n := IntWalk.u64_in _ (by omega)
      obtain ⟨hd1, hd2, hd3, hd4⟩ := hdb
      have HDB := hide (And.intro hd3 hd4)
      have hsplit : Co.gbitsL (zs.take (k + 1)) = Co.gbitsL (zs.take k) ++ (List.replicate z 0 ++ Co.lowN (z + 1) n) := by
        have e1 : zs.take (k + 1) = zs.take k ++ [n] := by rw [List.take_add_one, hzk]; rfl
        rw [e1, Co.gbitsL_snoc, Co.gbits_split hd, Nat.add_sub_cancel]
      obtain ⟨A, hA⟩ : ∃ A, A = Co.gbitsL (zs.take k) := ⟨_, rfl⟩
      have hAl : A.length + z + (z + 1) ≤ N := by
        have h1 := HN.out
        have e2 : Co.gbitsL zs = Co.gbitsL (zs.take (k + 1)) ++ Co.gbitsL (zs.drop (k + 1)) := by rw [← Co.gbitsL_append, List.take_append_drop]
        rw [e2, hsplit, ← hA] at h1
        simp [Co.lowN_length] at h1
        omega
      rw [← hA] at hB hsplit
      have HS := hide hsplit
      clear hd hd' cLen hd3 hd4 hzk hsplit hA
      go_wp2_with (go_at_call 69; refine (unhide CL).mono ?_; rintro e w' ⟨rfl, rfl⟩)
      go_loopw [19] (fun i wr => ∃ j : Nat, j ≤ z ∧ i = .int .i64 j ∧ J (2 ^ j) (A ++ List.replicate j 0) wr ∧ Below B w wr) (fun i _ => z - (intOf i).toNat)
      case atStart => exact ⟨0, Nat.zero_le _, rfl, by rw [List.replicate_zero, List.append_nil]; exact hB, hbx⟩
      case round =>
        clear hB hbx
        obtain ⟨j, hj, rfl, hB, hbx⟩ := hrel
        by_cases hjd : j < z
        · have cP := HP.out (2 ^ j) 0 (A ++ List.replicate j 0) wr (by omega) (Co.qz_bounds (by omega)).1 (Co.qz_bounds (by omega)).2 (by simp; omega) hB
          rw [Co.stq_zero (by omega)] at cP
          have CP := hide cP
          clear hB cP
          go_wp2_with (go_at_fn F; refine (unhide CP).mono ?_; rintro e w2 ⟨rfl, hB2, hbl2⟩)
          go_roundw
          case rel => exact ⟨j + 1, by omega, by go_num, by rw [List.replicate_succ', ← List.append_assoc]; exact hB2, hbx.trans hbl2⟩
          case measure => simp [intOf]; omega
        · have hje : j = z := by omega
          have HJ := hide hje
          have hdec : decide ((j : Int) < ((z + 1 : Nat) : Int) - 1) = false := decide_eq_false (by omega)
          clear hje
          go_wp2
          go_loopw [7] (fun i wr => ∃ (r : Nat) (done : List Nat), r ≤ z + 1 ∧ i = .int .i64 ((r : Int) - 1) ∧ Hid (done ++ Co.lowN r n = Co.lowN (z + 1) n) ∧ J (Co.qd z n r) (A ++ List.replicate z 0 ++ done) wr ∧ Below B w wr) (fun i _ => (intOf i + 1).toNat)
          case atStart =>
            refine ⟨z + 1, [], Nat.le_refl _, by go_num, rfl, ?_, hbx⟩
            rw [List.append_nil, ← HJ.out]
            unfold Co.qd
            rw [if_pos rfl]
            exact hB
          case round =>
            clear hB hbx
            obtain ⟨r, done, hrd, rfl, HL, hB, hbx⟩ := hrel
            by_cases hr0 : 0 < r
            · obtain ⟨q, rfl⟩ : ∃ q, r = q + 1 := ⟨r - 1, by omega⟩
              obtain ⟨x, hx⟩ : ∃ x, x = n / 2 ^ q % 2 := ⟨_, rfl⟩
              have hbit : bits .and .i64 ((n : Int) / 2 ^ q) 1 = (x : Int) := by rw [hx]; exact bit_of n q (by omega)
              have hx2 : x < 2 := by rw [hx]; exact Nat.mod_lt _ (by omega)
              have HX := hide hx
              have hdq : done.length + (q + 1) = z + 1 := by
                have := congrArg List.length HL.out
                rw [List.length_append, Co.lowN_length, Co.lowN_length] at this
                exact this
              have hst : Co.stq (Co.qd z n (q + 1)) x = Co.qd z n q := by
                rw [hx]
                exact Co.qd_step (by omega) HDB.out.1 HDB.out.2 (by omega)
              have hbd := Co.qd_bounds (z := z) (n := n) (r := q + 1) (by omega) HDB.out.2
              have cP := HP.out (Co.qd z n (q + 1)) x (A ++ List.replicate z 0 ++ done) wr hx2 hbd.1 hbd.2 (by simp; omega) hB
              rw [hst] at cP
              have CP := hide cP
              clear hB hx hdq cP hst hbd
              go_wp2_with (go_at_fn F; refine (unhide CP).mono ?_; rintro e w2 ⟨rfl, hB2, hbl2⟩)
              go_roundw
              case rel =>
                refine ⟨q, done ++ [x], by omega, by go_num, ?_, ?_, hbx.trans hbl2⟩
                · show _ = _
                  rw [← HL.out, Co.lowN, ← HX.out, List.append_assoc]
                  rfl
                · rw [← List.append_assoc]
                  exact hB2
              case measure => simp [intOf]
            · have hr1 : r = 0 := by omega
              subst hr1
              go_wp2
              go_roundw
              case rel =>
                refine ⟨k + 1, by omega, by go_num, ?_, hbx⟩
                have e2 := HL.out
                rw [Co.lowN, List.append_nil] at e2
                rw [HS.out, ← e2, ← List.append_assoc]
                rw [Co.qd_zero] at hB
                exact hB
              case measure => simp [intOf]; omega
    · go_wp2
      go_end0
      rw [List.take_of_length_le (by omega)] at hB
      exact ⟨rfl, hB, hbx⟩
end Go.Proofs.YtkiindkoiomieaaGreatDoor
end

section
/-
  P7: the walks of the part of the numbers that is left.
-/
namespace Go.Proofs.YtkiindkoiomieaaGreatDoor
open Go.RowKit Go.Lib

/-- A span as a value. -/
def spanV (s : Co.Sp) : Value := .agg #[.int .u32 (s.1 : Int), .int .u32 (s.2 : Int)]
/-- Odds as a value. -/
def oddsV (o : Nat × Nat) : Value := .agg #[.int .u64 (o.1 : Int), .int .u64 (o.2 : Int)]
/-- A span in a block of its own. -/
def SpanAt (w : World) (b : Nat) (s : Co.Sp) : Prop := w.heap[b]? = some (.cells #[.int .u32 (s.1 : Int), .int .u32 (s.2 : Int)] 139 (0, 0))

theorem SpanAt.c0 {w : World} {b : Nat} {s : Co.Sp} (h : SpanAt w b s) : w.cell? ⟨b, 0, none⟩ = some (.int .u32 (s.1 : Int)) := by rw [Lib.cell_of_heap h]; rfl
theorem SpanAt.c1 {w : World} {b : Nat} {s : Co.Sp} (h : SpanAt w b s) : w.cell? ⟨b, 1, none⟩ = some (.int .u32 (s.2 : Int)) := by rw [Lib.cell_of_heap h]; rfl
theorem SpanAt.f0 {w : World} {b : Nat} {s : Co.Sp} (h : SpanAt w b s) : w.frozen? ⟨b, 0, none⟩ = false := Lib.frozen_of_heap h 0
theorem SpanAt.f1 {w : World} {b : Nat} {s : Co.Sp} (h : SpanAt w b s) : w.frozen? ⟨b, 1, none⟩ = false := Lib.frozen_of_heap h 1
theorem SpanAt.lt {w : World} {b : Nat} {s : Co.Sp} (h : SpanAt w b s) : b < w.heap.size := (Array.getElem?_eq_some_iff.1 h).1
theorem SpanAt.set0 {w : World} {b : Nat} {s : Co.Sp} (h : SpanAt w b s) (n : Nat) : SpanAt (w.setCell ⟨b, 0, none⟩ (.int .u32 (n : Int))) b (n, s.2) := by
  unfold SpanAt
  rw [heap_setCell_same _ _ _ _ _ _ h]
  rfl
theorem SpanAt.set1 {w : World} {b : Nat} {s : Co.Sp} (h : SpanAt w b s) (n : Nat) : SpanAt (w.setCell ⟨b, 1, none⟩ (.int .u32 (n : Int))) b (s.1, n) := by
  unfold SpanAt
  rw [heap_setCell_same _ _ _ _ _ _ h]
  rfl
theorem OnlyAt.set' (b k : Nat) (w : World) (v : Value) : OnlyAt b w (w.setCell ⟨b, k, none⟩ v) :=
  ⟨⟨rfl, rfl, rfl, by simp, fun j _ hne => heap_setCell_other _ _ _ _ (fun e => hne (by rw [e]))⟩, by simp⟩
theorem OnlyAt.drew {b : Nat} {w w' : World} (h : OnlyAt b w w') : OnlyAt b w w'.drew := ⟨⟨h.1.os, h.1.tape, h.1.output, h.1.size, h.1.block⟩, h.2⟩

/-- But for some blocks all that lay below a place lies there as it was. -/
structure But (B : Nat) (X : List Nat) (w w' : World) : Prop where
  os : w'.os = w.os
  tape : w'.tape = w.tape
  output : w'.output = w.output
  size : w.heap.size ≤ w'.heap.size
  block : ∀ k, k < B → k ∉ X → w'.heap[k]? = w.heap[k]?

theorem But.refl (B : Nat) (X : List Nat) (w : World) : But B X w w := ⟨rfl, rfl, rfl, Nat.le_refl _, fun _ _ _ => rfl⟩
theorem But.trans {B : Nat} {X : List Nat} {a b c : World} (h : But B X a b) (k : But B X b c) : But B X a c :=
  ⟨k.os.trans h.os, k.tape.trans h.tape, k.output.trans h.output, Nat.le_trans h.size k.size, fun i hi hx => (k.block i hi hx).trans (h.block i hi hx)⟩
theorem But.mono {B B' : Nat} {X X' : List Nat} {w w' : World} (h : But B X w w') (hB : B' ≤ B) (hX : ∀ k ∈ X, k ∈ X') : But B' X' w w' :=
  ⟨h.os, h.tape, h.output, h.size, fun k hk hx => h.block k (Nat.lt_of_lt_of_le hk hB) (fun e => hx (hX k e))⟩
theorem But.drew {B : Nat} {X : List Nat} {w w' : World} (h : But B X w w') : But B X w w'.drew := ⟨h.os, h.tape, h.output, h.size, h.block⟩
theorem But.drewN {B : Nat} {X : List Nat} {w w' : World} (h : But B X w w') (n : Nat) : But B X w (w'.drewN n) := ⟨h.os, h.tape, h.output, h.size, h.block⟩
theorem But.below {B B' : Nat} {X : List Nat} {w w' : World} (h : But B X w w') (hB : B' ≤ B) (hX : ∀ k ∈ X, B' ≤ k) : Below B' w w' :=
  ⟨h.os, h.tape, h.output, h.size, fun k hk => h.block k (Nat.lt_of_lt_of_le hk hB) (fun e => by have := hX k e; omega)⟩
theorem OnlyAt.but {b B : Nat} {w w' : World} (h : OnlyAt b w w') (hB : B ≤ w.heap.size) : But B [b] w w' :=
  ⟨h.1.os, h.1.tape, h.1.output, h.1.size, fun k hk hx => h.1.block k (by omega) (fun e => hx (by cases e; simp))⟩
theorem below_but {B : Nat} {w w' : World} (h : Below B w w') (X : List Nat) : But B X w w' := ⟨h.os, h.tape, h.output, h.size, fun k hk _ => h.block k hk⟩
theorem but_grown {B b : Nat} {w w' : World} (h : w.grownBy w' (some b)) (hB : B ≤ w.heap.size) : But B [b] w w' :=
  ⟨h.os, h.tape, h.output, h.size, fun k hk hx => h.block k (by omega) (fun e => hx (by cases e; simp))⟩
theorem but_set (B b k : Nat) (w : World) (v : Value) : But B [b] w (w.setCell ⟨b, k, none⟩ v) :=
  ⟨rfl, rfl, rfl, by simp, fun j _ hx => heap_setCell_other _ _ _ _ (fun e => hx (by simp [e]))⟩

/-- But for some blocks nothing that lay there has turned. -/
def Frm (X : List Nat) (w w' : World) : Prop := But w.heap.size X w w'
theorem Frm.refl (X : List Nat) (w : World) : Frm X w w := But.refl _ _ _
theorem Frm.trans {X : List Nat} {a b c : World} (h : Frm X a b) (k : Frm X b c) : Frm X a c := But.trans h (But.mono k h.size (fun _ e => e))
theorem Frm.mono {X X' : List Nat} {w w' : World} (h : Frm X w w') (hX : ∀ k ∈ X, k ∈ X') : Frm X' w w' := But.mono h (Nat.le_refl _) hX
theorem Frm.below {X : List Nat} {B : Nat} {w w' : World} (h : Frm X w w') (hB : B ≤ w.heap.size) (hX : ∀ k ∈ X, B ≤ k) : Below B w w' := But.below h hB hX
theorem Frm.keep {X : List Nat} {w w' : World} (h : Frm X w w') {k : Nat} {o : Obj} (hk : w.heap[k]? = some o) (hX : k ∉ X) : w'.heap[k]? = some o := by
  rw [But.block h k (Array.getElem?_eq_some_iff.1 hk).1 hX]
  exact hk
theorem Frm.drewN {X : List Nat} {w w' : World} (h : Frm X w w') (n : Nat) : Frm X w (w'.drewN n) := But.drewN h n
theorem Frm.drew {X : List Nat} {w w' : World} (h : Frm X w w') : Frm X w w'.drew := But.drew h
theorem OnlyAt.frm {b : Nat} {w w' : World} (h : OnlyAt b w w') : Frm [b] w w' := h.but (Nat.le_refl _)
theorem below_frm {w w' : World} (h : Below w.heap.size w w') (X : List Nat) : Frm X w w' := below_but h X

theorem or_one (m : Nat) (h : m < 4294967296) (h2 : m % 2 = 0) : bits .or .u32 (m : Int) 1 = ((m + 1 : Nat) : Int) := by
  have e : (BitVec.ofInt 32 (m : Int) ||| BitVec.ofInt 32 1).toNat = m + 1 := by
    rw [BitVec.toNat_or]
    have h1 : (BitVec.ofInt 32 (m : Int)).toNat = m := by
      rw [BitVec.toNat_ofInt]
      omega
    have h2' : (BitVec.ofInt 32 1).toNat = 1 := by decide
    rw [h1, h2']
    have := Nat.two_pow_add_eq_or_of_lt (show 1 < 2 ^ 1 by omega) (m / 2)
    rw [show 2 ^ 1 * (m / 2) = m by omega] at this
    exact this.symm
  show IntKind.u32.wrap ((BitVec.ofInt 32 (m : Int) ||| BitVec.ofInt 32 1).toNat : Int) = _
  rw [e]
  exact IntWalk.u32_in _ (by omega)

set_option maxHeartbeats 400000 in
set_option maxRecDepth 100000 in
theorem top_any (n : Nat) (w : World) (h : n < 4294967296) :
    Calls Tryz.prog 149 #[.int .u32 (n : Int)] w fun e w' => e = .returned (.int .i64 (Co.top n : Nat)) ∧ w' = w := by
  go_enter Tryz.func149, Tryz.ntmps149
  go_wp2
  go_ret
  refine ⟨?_, rfl⟩
  show Ending.returned (Value.int .i64 ((n : Int) / 2147483648)) = _
  rw [show Co.top n = n / 2147483648 from rfl, Int.natCast_ediv]
  rfl

set_option maxHeartbeats 400000 in
set_option maxRecDepth 100000 in
theorem last_any (s : Co.Sp) (o : Nat × Nat) (w : World) (h1 : s.1 < s.2) (h2 : s.2 < 4294967296) (ho1 : 1 ≤ o.1) (ho2 : 1 ≤ o.2) (ho : o.1 + o.2 ≤ 1000000) :
    Calls Tryz.prog 133 #[spanV s, oddsV o] w fun e w' => e = .returned (.int .u32 (Co.lastZ s o : Nat)) ∧ Below w.heap.size w w' := by
  obtain ⟨l, u⟩ := s
  obtain ⟨z, n⟩ := o
  simp only [spanV, oddsV] at *
  obtain ⟨d, hd⟩ : ∃ d, d = u - l := ⟨_, rfl⟩
  have hdz : d * z ≤ 4294967295 * 1000000 := Nat.mul_le_mul (by omega) (by omega)
  obtain ⟨m, hm⟩ : ∃ m, m = d * z := ⟨_, rfl⟩
  obtain ⟨t, ht⟩ : ∃ t, t = z + n := ⟨_, rfl⟩
  have e1 : IntKind.u32.wrap ((u : Int) - (l : Int)) = (d : Int) := by rw [IntWalk.u32_in _ (by omega)]; omega
  have e2 : IntKind.u64.wrap (IntKind.u64.wrap (d : Int) * (z : Int)) = (m : Int) := by
    rw [IntWalk.u64_in (d : Int) (by omega), ← Int.natCast_mul, ← hm, IntWalk.u64_in _ (by omega)]
  have e3 : IntKind.u64.wrap ((z : Int) + (n : Int)) = (t : Int) := by rw [IntWalk.u64_in _ (by omega)]; omega
  have hq : m / t < d := by
    rw [hm, ht]
    rw [Nat.div_lt_iff_lt_mul (by omega)]
    exact Nat.mul_lt_mul_of_pos_left (by omega) (by omega)
  obtain ⟨q, hqe⟩ : ∃ q, q = m / t := ⟨_, rfl⟩
  have e4 : (m : Int) / (t : Int) = (q : Int) := by rw [hqe, Int.natCast_ediv]
  have hz : ¬ ((t : Int) = 0) := by omega
  have hdiv : ∀ W, Sem.run Tryz.prog (Op.intDiv .quo .u64 (IntKind.u64.wrap (IntKind.u64.wrap (d : Int) * (z : Int))) (t : Int)) W = .ok (.int .u64 (q : Int)) W := fun W => by
    unfold Op.intDiv
    rw [if_neg hz, e2]
    show Sem.run Tryz.prog (pure (Value.int .u64 (IntKind.u64.wrap ((m : Int).tdiv (t : Int))))) W = _
    rw [Int.tdiv_eq_ediv_of_nonneg (by omega), e4, IntWalk.u64_in _ (by omega)]
    rfl
  have e6 : Co.lastZ (l, u) (z, n) = l + q := by
    unfold Co.lastZ
    simp only
    rw [← hd, ← hm, ← ht, ← hqe]
  rw [e6]
  rw [← hqe] at hq
  clear hqe hdz
  have HM := hide hm
  have HT := hide ht
  have HD := hide hd
  clear hm ht hd
  go_enter Tryz.func133, Tryz.ntmps133
  go_wp2
  go_quiet (fail)
  go_wp2
  go_ret
  refine ⟨?_, below_drewN (((Below.refl _ _).alloc (Nat.le_refl _) _).alloc (by simp) _) _⟩
  show Ending.returned (Value.int .u32 (((l : Int) + IntKind.u64.wrap (q : Int) % 4294967296) % 4294967296)) = _
  have hD := HD.out
  rw [IntWalk.u64_in _ (by omega)]
  congr 2
  omega

set_option maxHeartbeats 400000 in
set_option maxRecDepth 100000 in
theorem keep_any (b : Nat) (s : Co.Sp) (x l : Nat) (w : World) (hx : x < 2) (hl : l < 4294967295) (h : SpanAt w b s) :
    Calls Tryz.prog 134 #[.pointer (some ⟨b, 0, none⟩), .int .i64 (x : Int), .int .u32 (l : Int)] w fun e w' => e = .returned (.tuple #[]) ∧ SpanAt w' b (Co.kept s x l) ∧ OnlyAt b w w' := by
  have c0 := h.c0
  have c1 := h.c1
  have f0 := h.f0
  have f1 := h.f1
  have s0 := h.set0 (l + 1)
  have s1 := h.set1 l
  have H := hide (And.intro s0 s1)
  clear h s0 s1
  have e1 : IntKind.u32.wrap ((l : Int) + 1) = ((l + 1 : Nat) : Int) := by rw [IntWalk.u32_in _ (by omega)]; omega
  go_enter Tryz.func134, Tryz.ntmps134
  rcases (show x = 0 ∨ x = 1 by omega) with rfl | rfl
  · go_wp2
    go_end0
    exact ⟨rfl, H.out.2, OnlyAt.set' _ _ _ _⟩
  · go_wp2
    go_end0
    refine ⟨rfl, ?_, OnlyAt.set' _ _ _ _⟩
    have := H.out.1
    rw [Int.natCast_add] at this
    exact this

set_option maxHeartbeats 400000 in
set_option maxRecDepth 100000 in
theorem settled_any (s : Co.Sp) (w : World) (h1 : s.1 < 4294967296) (h2 : s.2 < 4294967296) :
    Calls Tryz.prog 135 #[spanV s] w fun e w' => e = .returned (.bool (Co.settled s)) ∧ Below w.heap.size w w' := by
  obtain ⟨l, u⟩ := s
  simp only [spanV] at *
  go_enter Tryz.func135, Tryz.ntmps135
  go_wp2
  go_quiet ((first | (go_at_call 149; exact Calls.quiet_of_same (top_any l _ h1)) | (go_at_call 149; exact Calls.quiet_of_same (top_any u _ h2))))
  go_wp2
  go_ret
  refine ⟨?_, below_drewN ((Below.refl _ _).alloc (Nat.le_refl _) _) _⟩
  show Ending.returned (Value.bool ((Co.top l : Int) == (Co.top u : Int))) = .returned (.bool (Co.top l == Co.top u))
  congr 2
  rw [Bool.eq_iff_iff, beq_iff_eq, beq_iff_eq, Int.ofNat_inj]

set_option maxHeartbeats 1000000 in
set_option maxRecDepth 100000 in
theorem drop_any (b : Nat) (s : Co.Sp) (w : World) (h : SpanAt w b s) :
    Calls Tryz.prog 136 #[.pointer (some ⟨b, 0, none⟩)] w fun e w' => e = .returned (.tuple #[]) ∧ SpanAt w' b (Co.dropT s) ∧ OnlyAt b w w' := by
  have c0 := h.c0
  have c1 := h.c1
  have f0 := h.f0
  have f1 := h.f1
  have H := hide h
  clear h
  go_enter Tryz.func136, Tryz.ntmps136
  go_wp2
  go_region
  go_end0
  refine ⟨rfl, ?_, ((OnlyAt.set' _ _ _ _).trans (OnlyAt.set' _ _ _ _)).drew⟩
  have e0 : (s.1 : Int) * 2 % 4294967296 = ((2 * s.1 % 4294967296 : Nat) : Int) := by omega
  have e1 : bits .or .u32 ((s.2 : Int) * 2 % 4294967296) 1 = ((2 * s.2 % 4294967296 + 1 : Nat) : Int) := by
    rw [show (s.2 : Int) * 2 % 4294967296 = ((2 * s.2 % 4294967296 : Nat) : Int) by omega]
    exact or_one _ (by omega) (by omega)
  rw [e0, e1]
  exact (H.out.set0 _).set1 _
end Go.Proofs.YtkiindkoiomieaaGreatDoor
end

section
/-
  P7: the walks of bytesOf and bitsOf.
-/
namespace Go.Proofs.YtkiindkoiomieaaGreatDoor
open Go.RowKit

/-- A bit as a letter. -/
def ch (b : Nat) : UInt8 := UInt8.ofNat (48 + b)
theorem ch_toNat {b : Nat} (h : b < 2) : (ch b).toNat = 48 + b := by
  unfold ch
  simp
  omega

theorem byte_get0 (s : ByteArray) (k : Nat) (h : k < s.size) : s.data.toList[k]? = some s[k] := by
  have h' : k < s.data.toList.length := by rw [← Lib.size_eq]; exact h
  rw [List.getElem?_eq_getElem h']
  rfl

theorem or_u8 {x y : Nat} (hx : x < 256) (hy : y < 256) : bits .or .u8 (x : Int) (y : Int) = ((x ||| y : Nat) : Int) := by
  have e : (BitVec.ofInt 8 (x : Int) ||| BitVec.ofInt 8 (y : Int)).toNat = x ||| y := by
    rw [BitVec.toNat_or]
    have h1 : (BitVec.ofInt 8 (x : Int)).toNat = x := by rw [BitVec.toNat_ofInt]; omega
    have h2 : (BitVec.ofInt 8 (y : Int)).toNat = y := by rw [BitVec.toNat_ofInt]; omega
    rw [h1, h2]
  show IntKind.u8.wrap ((BitVec.ofInt 8 (x : Int) ||| BitVec.ofInt 8 (y : Int)).toNat : Int) = _
  rw [e]
  have := Nat.or_lt_two_pow (n := 8) hx hy
  exact IntWalk.u8_in _ (by omega)

theorem make_bytes' (n : Nat) (hn : n ≤ 100000) (W : World) : (Instr.makeSlice 81 (.int .i64 (n : Int)) (.int .i64 (n : Int))).run Tryz.prog W = .ok (.slice (some ⟨W.heap.size, 0, none⟩) n n) (W.alloc (.cells (cellsY (List.replicate n 0)) 5)) := by
  obtain ⟨i0, hi, hz0, hz1, hz2⟩ := info_parts Tryz.info5'
  have h := run_make (P := Tryz.prog) W 81 5 i0 (.int .u8 0) Tryz.underlying81 hi hz0 .i64 .i64 n n (by omega) (by omega) (by rw [hz2]; omega) (by omega)
  have e : madeCells (Value.int .u8 0).cells ((n : Int).toNat * i0.size) = cellsY (List.replicate n 0) := by
    rw [hz1]
    apply Array.ext'
    show (madeCells #[Value.int .u8 0] _).toList = _
    rw [toList_madeCells_one]
    simp [cellsY]
  rw [e] at h
  simpa using h

theorem letter_of {S : ByteArray} {l : List Nat} (hS : S.data.toList = l.map ch) (hb : ∀ d ∈ l, d < 2) {i : Nat} (hi : i < S.size) : ∃ b, l[i]? = some b ∧ b < 2 ∧ S[i].toNat = 48 + b := by
  have hl : i < l.length := by
    have : S.size = l.length := by rw [Lib.size_eq, hS, List.length_map]
    omega
  obtain ⟨b, hb1⟩ : ∃ b, l[i]? = some b := ⟨_, List.getElem?_eq_getElem hl⟩
  have hb2 := hb b (List.mem_of_getElem? hb1)
  refine ⟨b, hb1, hb2, ?_⟩
  have h1 : S.data.toList[i]? = some S[i] := byte_get0 S i hi
  rw [hS, List.getElem?_map, hb1] at h1
  have h2 : ch b = S[i] := Option.some.inj h1
  rw [← h2, ch_toNat hb2]

set_option maxHeartbeats 1000000 in
set_option maxRecDepth 100000 in
theorem bytesOf_any (S : ByteArray) (l : List Nat) (w : World) (hS : S.data.toList = l.map ch) (hb : ∀ d ∈ l, d < 2) (hl : l.length ≤ 300000) :
    Calls Tryz.prog 127 #[.string S] w fun e w' => e = .returned (.string ⟨(Co.bytesF l).toArray⟩) ∧ Below w.heap.size w w' := by
  have hsz : S.size = l.length := by rw [Lib.size_eq, hS, List.length_map]
  obtain ⟨N, hN⟩ : ∃ N, N = (S.size + 7) / 8 := ⟨_, rfl⟩
  have hmk := make_bytes' N (by omega)
  have hq0 : ((S.size : Int) + 7).tdiv 8 = (N : Int) := by
    rw [Int.tdiv_eq_ediv_of_nonneg (by omega)]
    omega
  have hq1 : ((S.size : Int) + 7) / 8 = (N : Int) := by omega
  have hS3 : S.size ≤ 300000 := by omega
  have HS := hide hS
  have HB := hide hb
  have HZ := hide hsz
  have HN := hide hN
  clear hS hb hsz hN hl
  go_enter Tryz.func127, Tryz.ntmps127
  go_wp2
  go_loopw [12] (fun iv wr => ∃ i : Nat, i ≤ S.size ∧ iv = .int .i64 i ∧ wr.heap[w.heap.size]? = some (.cells (cellsY (Co.bytesN N (l.take i))) 5 (0, 0)) ∧ Below w.heap.size w wr) (fun iv _ => S.size - (intOf iv).toNat)
  case atStart => exact ⟨0, by omega, rfl, by rw [List.take_zero, Co.bytesN_nil]; exact heap_alloc_new _ _, (Below.refl _ _).alloc (Nat.le_refl _) _⟩
  case round =>
    obtain ⟨i, hi, rfl, hG, hbx⟩ := hrel
    by_cases hlt : i < S.size
    · obtain ⟨b, hlb, hb2, hSb⟩ := letter_of HS.out HB.out hlt
      obtain ⟨k, hk⟩ : ∃ k, k = i / 8 := ⟨_, rfl⟩
      obtain ⟨m, hm⟩ : ∃ m, m = i % 8 := ⟨_, rfl⟩
      have hkN : k < N := by have := HN.out; omega
      have hk1 : (i : Int) / 8 = (k : Int) := by omega
      have hk2 : (i : Int).tdiv 8 = (k : Int) := by rw [Int.tdiv_eq_ediv_of_nonneg (by omega)]; omega
      have hm1 : (i : Int) % 8 = (m : Int) := by omega
      have hm2 : (i : Int).tmod 8 = (m : Int) := by rw [Int.tmod_eq_emod_of_nonneg (by omega)]; omega
      have hm8 : m < 8 := by omega
      have hget := Co.bytesN_get N (l.take i) k hkN
      obtain ⟨x, hx⟩ : ∃ x, x = Co.win 8 ((l.take i).drop (8 * k)) := ⟨_, rfl⟩
      have hx256 : x < 256 := by
        rw [hx]
        exact Co.win8_lt _ (fun d hd => HB.out d (List.mem_of_mem_take (List.mem_of_mem_drop hd)))
      rw [← hx] at hget
      have hcell : wr.cell? ⟨w.heap.size, k, none⟩ = some (.int .u8 (x : Int)) := by
        rw [cell_of_row wr w.heap.size k _ 5 _ hG, cellsY_at hget, show (UInt8.ofNat x).toNat = x by simp; omega]
      have hfr := frozen_of_row _ w.heap.size k _ _ hG
      have hb1 : IntKind.u8.wrap ((S[i].toNat : Int) - 48) = (b : Int) := by rw [hSb, IntWalk.u8_in _ (by omega)]; omega
      have hstep := Co.bytes_step N l i b hlb hb2 (by omega)
      rw [← hk, ← hm, ← hx] at hstep
      have HST := hide hstep
      have HG := hide hG
      have HL := hide hlb
      clear hstep hget hx hG hlb hk hm hSb
      have hp : b * 2 ^ (7 - m) < 256 := by
        have : b * 2 ^ (7 - m) ≤ 1 * 2 ^ 7 := Nat.mul_le_mul (by omega) (Nat.pow_le_pow_right (by omega) (by omega))
        omega
      have hor : bits .or .u8 (x : Int) ((b : Int) * 2 ^ (7 - m) % 256) = ((x ||| b * 2 ^ (7 - m) : Nat) : Int) := by
        have e : (b : Int) * 2 ^ (7 - m) % 256 = ((b * 2 ^ (7 - m) : Nat) : Int) := by
          rw [show (b : Int) * 2 ^ (7 - m) = ((b * 2 ^ (7 - m) : Nat) : Int) by simp]
          omega
        rw [e]
        exact or_u8 hx256 hp
      have hol : x ||| b * 2 ^ (7 - m) < 256 := Nat.or_lt_two_pow (n := 8) hx256 hp
      have HO := hide (And.intro hor hol)
      clear hor hol hp
      go_wp2
      go_region
      go_wp2
      go_roundw
      case rel =>
        refine ⟨i + 1, by omega, by go_num, ?_, (hbx.setCell (p := ⟨w.heap.size, k, none⟩) (Nat.le_refl _) _).drew⟩
        show (wr.setCell _ _).heap[w.heap.size]? = _
        rw [heap_setCell_same _ _ _ _ _ _ HG.out, HST.out, HO.out.1, ← cellsY_set, UInt8.toNat_ofNat_of_lt' HO.out.2]
      case measure => simp [intOf]; omega
    · have hie : i = S.size := by omega
      have hfin : Co.bytesN N (l.take i) = Co.bytesF l := by
        rw [hie, HZ.out, List.take_length, HN.out, HZ.out]
        rfl
      rw [hfin] at hG
      have hlen : (Co.bytesF l).length = N := by rw [Co.bytesF_length, HN.out, HZ.out]
      have hcv := run_convert_bytes_back (P := Tryz.prog) wr 81 9 5 ⟨w.heap.size, 0, none⟩ N (Co.bytesF l) Tryz.underlying81 Tryz.underlying5 Tryz.underlying9 (fun j hj => by
        rw [Addr.add_lit, Nat.zero_add, cell_of_row wr w.heap.size j _ 5 _ hG, cellsY_at (List.getElem?_eq_getElem hj)])
      rw [hlen] at hcv
      clear hfin hlen hG
      go_wp2
      go_ret
      exact ⟨rfl, hbx⟩

theorem ch_map_snoc (l : List Nat) (b : Nat) : l.map ch ++ [UInt8.ofNat (48 + b)] = (l ++ [b]).map ch := by
  rw [List.map_append]
  rfl

theorem byte_bit (c q : Nat) (h : c < 256) : bits .and .i64 ((c : Int) / 2 ^ q) 1 = ((c / 2 ^ q % 2 : Nat) : Int) := bit_of c q (by omega)

set_option maxHeartbeats 1000000 in
set_option maxRecDepth 100000 in
theorem bitsOf_any (S : ByteArray) (w : World) (hs : S.size ≤ 5000) :
    Calls Tryz.prog 105 #[.string S] w fun e w' => e = .returned (.string ⟨((Co.bitsF S.data.toList).map ch).toArray⟩) ∧ Below w.heap.size w w' := by
  go_enter Tryz.func105, Tryz.ntmps105
  go_wp2_with (go_at_call 37; refine (writer_any _).mono ?_; rintro e w' ⟨rfl, rfl⟩)
  go_loopw [13] (fun iv wr => ∃ i : Nat, i ≤ S.size ∧ iv = .int .i64 i ∧ Lib.IsBuilder 83 5 w.heap.size w.heap.size (Lib.byteCells ((Co.bitsF (S.data.toList.take i)).map ch)) wr ∧ Below w.heap.size w wr) (fun iv _ => S.size - (intOf iv).toNat)
  case atStart => exact ⟨0, by omega, rfl, Lib.fresh_isBuilder 83 5 w, (Below.refl _ _).alloc (Nat.le_refl _) _⟩
  case round =>
    obtain ⟨i, hi, rfl, hB, hbx⟩ := hrel
    by_cases hlt : i < S.size
    · obtain ⟨A, hA⟩ : ∃ A, A = Co.bitsF (S.data.toList.take i) := ⟨_, rfl⟩
      obtain ⟨c, hc⟩ : ∃ c, c = S[i].toNat := ⟨_, rfl⟩
      have hc256 : c < 256 := by rw [hc]; exact S[i].toNat_lt
      have hAl : A.length ≤ 40000 := by
        rw [hA, Co.bitsF_length, List.length_take]
        omega
      have hnext : Co.bitsF (S.data.toList.take (i + 1)) = A ++ Co.lowN 8 c := by
        rw [List.take_add_one, byte_get0 S i hlt, hA, hc]
        exact Co.bitsF_snoc _ _
      rw [← hA] at hB
      have hcI : (S[i].toNat : Int) = (c : Int) := by rw [hc]
      have HN := hide hnext
      clear hnext hA hc
      go_wp2
      go_loopw [6] (fun sv wr => ∃ (r : Nat) (done : List Nat), r ≤ 8 ∧ sv = .int .i64 ((r : Int) - 1) ∧ done.length ≤ 8 ∧ Hid (done ++ Co.lowN r c = Co.lowN 8 c) ∧ Lib.IsBuilder 83 5 w.heap.size w.heap.size (Lib.byteCells ((A ++ done).map ch)) wr ∧ Below w.heap.size w wr) (fun sv _ => (intOf sv + 1).toNat)
      case atStart => exact ⟨8, [], Nat.le_refl _, rfl, Nat.zero_le _, rfl, by rw [List.append_nil]; exact hB, hbx⟩
      case round =>
        clear hB hbx
        obtain ⟨r, done, hr, rfl, hdl, HL, hB, hbx⟩ := hrel
        by_cases hr0 : 0 < r
        · obtain ⟨q, rfl⟩ : ∃ q, r = q + 1 := ⟨r - 1, by omega⟩
          obtain ⟨x, hx⟩ : ∃ x, x = c / 2 ^ q % 2 := ⟨_, rfl⟩
          have hbit : bits .and .i64 ((c : Int) / 2 ^ q) 1 = (x : Int) := by rw [hx]; exact byte_bit c q hc256
          have hx2 : x < 2 := by rw [hx]; exact Nat.mod_lt _ (by omega)
          have hdq : done.length + (q + 1) = 8 := by
            have := congrArg List.length HL.out
            rw [List.length_append, Co.lowN_length, Co.lowN_length] at this
            exact this
          have HX := hide hx
          have CP := hide (put_any w.heap.size w.heap.size x ((A ++ done).map ch) wr hx2 hB (by simp; omega) (by have := hbx.size; omega))
          clear hB hx
          go_wp2_with (go_at_call 68; refine (unhide CP).mono ?_; rintro e w2 ⟨rfl, hB2, hbl2⟩)
          go_roundw
          case rel =>
            refine ⟨q, done ++ [x], by omega, by go_num, by rw [List.length_append, List.length_singleton]; omega, ?_, ?_, hbx.trans hbl2⟩
            · show _ = _
              rw [← HL.out, Co.lowN, ← HX.out, List.append_assoc]
              rfl
            · rw [ch_map_snoc, List.append_assoc] at hB2
              exact hB2
          case measure => simp [intOf]
        · have hr1 : r = 0 := by omega
          subst hr1
          go_wp2
          go_roundw
          case rel =>
            refine ⟨i + 1, by omega, by go_num, ?_, hbx⟩
            have e2 := HL.out
            rw [Co.lowN, List.append_nil] at e2
            rw [HN.out, ← e2]
            exact hB
          case measure => simp [intOf]; omega
    · rw [List.take_of_length_le (by rw [← Lib.size_eq]; omega)] at hB
      have CS := hide (Tryz.Builder_String_any _ _ _ _ hB hbx.size)
      clear hB
      go_wp2_with (go_at_call 64; refine (unhide CS).mono ?_; rintro e w3 ⟨rfl, hb3⟩)
      go_ret
      exact ⟨rfl, hbx.trans hb3⟩
end Go.Proofs.YtkiindkoiomieaaGreatDoor
end

