import Derived.Test.YtkiindkoiomieaaGreatDoorRows
import Derived.ProofKit
import Derived.ChangeSlices
import Derived.Deep.Slices
import Derived.Deep.Strs
import Derived.Test.YtkiindkoiomieaaGreatDoorJ05
import Derived.Test.YtkiindkoiomieaaGreatDoorJ09
import Derived.Test.YtkiindkoiomieaaGreatDoorJ04
import Derived.SizedLaws
import Derived.Test.YtkiindkoiomieaaGreatDoorCards
import Derived.Test.YtkiindkoiomieaaGreatDoorTie
import Derived.Test.YtkiindkoiomieaaGreatDoorJ15
section
/-
  A script as data: its steps, each five cells.
-/
namespace Go.Proofs.YtkiindkoiomieaaGreatDoor
open Go.ChangeShapes Go.WideShapes Go.ChangeAt Go.RowKit Go.Deep

theorem Tryz.own : ownKnob Tryz.prog.godebug = none := by kernel_rfl
theorem Tryz.cells25 : Tryz.prog.cellsOf 25 = 5 := by kernel_rfl
theorem Tryz.cells9 : Tryz.prog.cellsOf 9 = 1 := by kernel_rfl
theorem Tryz.cells23 : Tryz.prog.cellsOf 23 = 1 := by kernel_rfl

/-- One step of a script, as it lies at a place of a block. -/
structure OpAt (W : World) (b o : Nat) (na nb : Int) (S T : ByteArray) (la : Option Addr) (ll lc : Nat) (zs : List Int) : Prop where
  cA : W.cell? ⟨b, o, none⟩ = some (.int .i64 na)
  cB : W.cell? ⟨b, o + 1, none⟩ = some (.int .i64 nb)
  cS : W.cell? ⟨b, o + 2, none⟩ = some (.string S)
  cT : W.cell? ⟨b, o + 3, none⟩ = some (.string T)
  cL : W.cell? ⟨b, o + 4, none⟩ = some (.slice la ll lc)
  sS : S.size ≤ maxLen
  sT : T.size ≤ maxLen
  wA : (Lit.int .i64 na).wf = true
  wB : (Lit.int .i64 nb).wf = true
  zl : zs.length = ll
  lm : ll ≤ maxLen
  wz : ∀ z ∈ zs, (Lit.int .i64 z).wf = true
  at_ : (ll = 0 ∧ (la = none → lc = 0)) ∨ ∃ lb lo, la = some ⟨lb, lo, none⟩ ∧ lb < W.heap.size ∧ ∀ j, j < ll → W.cell? ⟨lb, lo + j, none⟩ = some (.int .i64 (zs.getD j 0))

section
variable {H : Type} {enc : TypeId × Value → H}

theorem trod_struct5 {P : Program} {w : World} {base : Nat} {spare : Nat → Bool} {held : Bool} {t : TypeId} {f0 f1 f2 f3 f4 : Field} {fuel : Nat} {cs : List Value} {x : DataW H × List MemPlace}
    (ht : P.underlying t = some (.struct #[f0, f1, f2, f3, f4])) (h : DataW.trod enc P w base spare held fuel t cs = some x) :
    ∃ (y : Nat → DataW H × List MemPlace) (n : Nat), x = (.agg [(y 0).1, (y 1).1, (y 2).1, (y 3).1, (y 4).1], (y 0).2 ++ ((y 1).2 ++ ((y 2).2 ++ ((y 3).2 ++ (y 4).2)))) ∧ cs.length = P.cellsOf t ∧
      ∀ i f, #[f0, f1, f2, f3, f4][i]? = some f → DataW.trod enc P w base spare held n f.type ((cs.drop f.offset).take (P.cellsOf f.type)) = some (y i) := by
  obtain ⟨xs, n, _, rfl, hl, hlen, hf⟩ := DataW.trod_struct ht h
  match xs, hlen with
  | [y0, y1, y2, y3, y4], _ =>
    refine ⟨fun i => [y0, y1, y2, y3, y4].getD i y0, n, by simp, hl, fun i f hi => ?_⟩
    have h1 := hf i f hi
    have hlt : i < 5 := (Array.getElem?_eq_some_iff.1 hi).1
    rw [h1]
    simp [List.getD, List.getElem?_eq_getElem (show i < [y0, y1, y2, y3, y4].length from hlt)]

set_option maxRecDepth 100000 in
theorem open_ops {W : World} {a0 : Option Addr} {len cap fuel : Nat} {d0 : DataW H} {p : List MemPlace}
    (hf : DataW.trod enc Tryz.prog W 0 (fun _ => true) true fuel 22 [.slice a0 len cap] = some (d0, p)) (hlt : ∀ x ∈ p, x.block < W.heap.size) :
    len ≤ maxLen ∧ (len = 0 ∨ ∃ (b off : Nat) (D : Nat → DataW H) (rest : List (DataW H)), a0 = some ⟨b, off, none⟩ ∧ b < W.heap.size ∧ d0 = .slice ((List.range len).map D) rest ∧
      ∀ k, k < len → ∃ na nb S T la ll lc zs dl, OpAt W b (off + k * 5) na nb S T la ll lc zs ∧ D k = .agg [.lit (.int .i64 na), .lit (.int .i64 nb), .lit (.string S.data.toList), .lit (.string T.data.toList), dl] ∧
        ((dl = .nil ∧ ll = 0) ∨ ∃ sp, dl = .slice (lits .i64 zs) sp)) := by
  rcases open_slice Tryz.underlying22 hf with ⟨hcs, hx⟩ | ⟨a, len', cap', m, n, D, Pl, hcs, _, hl, hm, hmm, hx, hel⟩
  · simp at hcs
    obtain ⟨_, rfl, _⟩ := hcs
    exact ⟨Nat.zero_le _, .inl rfl⟩
  · simp at hcs
    obtain ⟨rfl, rfl, rfl⟩ := hcs
    simp only [Prod.mk.injEq] at hx
    obtain ⟨rfl, rfl⟩ := hx
    simp only [if_true] at hmm
    subst hmm
    refine ⟨by omega, ?_⟩
    by_cases h0 : len = 0
    · exact .inl h0
    right
    obtain ⟨b, off, spot⟩ := a
    have hspot : spot = none := by
      obtain ⟨cs', hc0, ht0⟩ := hel 0 (by omega)
      rw [Tryz.cells25] at hc0
      obtain ⟨_, hl5, hcell⟩ := World.cells?_some hc0
      have := hcell 0 (by omega)
      rw [List.getElem?_eq_getElem (by omega)] at this
      simpa [Addr.add] using World.cell?_spot this
    subst hspot
    refine ⟨b, off, D, _, rfl, ?_, rfl, fun k hk => ?_⟩
    · refine hlt (.cell b (off + 0)) (List.mem_append_left _ ?_)
      simp only [MemPlace.row, List.mem_map, List.mem_range]
      exact ⟨0, by rw [Tryz.cells25]; omega, rfl⟩
    · obtain ⟨cs', hc0, ht0⟩ := hel k (by omega)
      rw [Tryz.cells25] at hc0
      obtain ⟨_, hl5, hcell⟩ := World.cells?_some hc0
      obtain ⟨y, n', hD, _, hy⟩ := trod_struct5 Tryz.underlying25 ht0
      simp only [Prod.mk.injEq] at hD
      obtain ⟨c0, c1, c2, c3, c4, rfl⟩ : ∃ c0 c1 c2 c3 c4, cs' = [c0, c1, c2, c3, c4] := by
        match cs', hl5 with
        | [c0, c1, c2, c3, c4], _ => exact ⟨c0, c1, c2, c3, c4, rfl⟩
      obtain ⟨na, h01, h02, wA⟩ := DataW.trod_int Tryz.underlying3 (hy 0 _ rfl)
      obtain ⟨nb, h11, h12, wB⟩ := DataW.trod_int Tryz.underlying3 (hy 1 _ rfl)
      obtain ⟨S, h21, h22, sS⟩ := DataW.trod_string Tryz.underlying9 (hy 2 _ rfl)
      obtain ⟨T, h31, h32, sT⟩ := DataW.trod_string Tryz.underlying9 (hy 3 _ rfl)
      simp [Tryz.cells3] at h01 h11
      simp [Tryz.cells9] at h21 h31
      subst h01 h11 h21 h31
      have r0 := hcell 0 (by omega)
      have r1 := hcell 1 (by omega)
      have r2 := hcell 2 (by omega)
      have r3 := hcell 3 (by omega)
      have r4 := hcell 4 (by omega)
      simp [Addr.add_lit] at r0 r1 r2 r3 r4
      have hP : ∀ x ∈ (y 4).2, x.block < W.heap.size := fun x hx => hlt x (List.mem_append_right _ (List.mem_flatMap.2 ⟨k, List.mem_range.2 (by omega), by rw [hD.2]; simp [hx]⟩))
      rcases open_ints Tryz.underlying23 Tryz.underlying3 Tryz.cells3 (hy 4 _ rfl) with ⟨h41, h42⟩ | ⟨a, ll, lc, zs, h41, _, hll, hlm, hzl, h42, hcz, hwz⟩
      · simp [Tryz.cells23] at h41
        subst h41
        refine ⟨na, nb, S, T, none, 0, 0, [], .nil, ⟨r0, r1, r2, r3, r4, sS, sT, wA, wB, rfl, Nat.zero_le _, by simp, .inl ⟨rfl, fun _ => rfl⟩⟩, ?_, .inl ⟨rfl, rfl⟩⟩
        rw [hD.1, h02, h12, h22, h32, h42]
      · simp [Tryz.cells23] at h41
        subst h41
        simp only [if_true] at hzl
        have hD' : D k = .agg [.lit (.int .i64 na), .lit (.int .i64 nb), .lit (.string S.data.toList), .lit (.string T.data.toList), .slice (lits .i64 (zs.take ll)) (lits .i64 (zs.drop ll))] := by
          rw [hD.1, h02, h12, h22, h32, h42]
        refine ⟨na, nb, S, T, some a, ll, lc, zs.take ll, _, ⟨r0, r1, r2, r3, r4, sS, sT, wA, wB, by simp; omega, by omega, fun z hz => hwz z (List.mem_of_mem_take hz), ?_⟩, hD', .inr ⟨_, rfl⟩⟩
        by_cases hl0 : ll = 0
        · exact .inl ⟨hl0, fun h => by cases h⟩
        · right
          obtain ⟨lb, lo, lsp⟩ := a
          have hls : lsp = none := by simpa [Addr.add] using World.cell?_spot (hcz 0 (by omega))
          subst hls
          refine ⟨lb, lo, rfl, ?_, fun j hj => ?_⟩
          · refine hP (.cell lb (lo + 0)) ?_
            rw [h42]
            simp only [MemPlace.row, List.mem_map, List.mem_range]
            exact ⟨0, by omega, rfl⟩
          · have := hcz j (by omega)
            rw [Addr.add_lit] at this
            rw [this]
            congr 2
            simp [List.getD, hj]
end
end Go.Proofs.YtkiindkoiomieaaGreatDoor
end

section
/-
  Plain mathematics of P6: what is written is read as it was; what is read is written as it was. Nothing of the program.
-/
namespace Go.Proofs.YtkiindkoiomieaaGreatDoor

theorem bits_low : ∀ (j acc n : Nat) (r : List UInt8), readBits j acc (lowB j n ++ r) = some (acc * 2 ^ j + n % 2 ^ j, r)
  | 0, acc, n, r => by simp [readBits, lowB, Nat.mod_one]
  | j + 1, acc, n, r => by
    have hm := Nat.mod_pow_succ (x := n) (b := 2) (k := j)
    rw [lowB, List.cons_append, readBits]
    rw [Nat.pow_succ] at hm ⊢
    rcases Nat.mod_two_eq_zero_or_one (n / 2 ^ j) with h | h
    · rw [h] at hm ⊢
      rw [if_pos (by decide), bits_low j]
      congr 2
      rw [hm, Nat.mul_zero, Nat.add_zero, Nat.mul_comm 2 acc, Nat.mul_assoc, Nat.mul_comm 2]
    · rw [h] at hm ⊢
      rw [if_neg (by decide), if_pos (by decide), bits_low j]
      congr 2
      rw [hm, Nat.mul_one, Nat.add_mul, Nat.one_mul, Nat.mul_comm 2 acc, Nat.mul_assoc, Nat.mul_comm 2 (2 ^ j)]
      omega

theorem bits_back : ∀ (k acc : Nat) (x : List UInt8) (n : Nat) (r : List UInt8), readBits k acc x = some (n, r) → x = lowB k n ++ r ∧ n / 2 ^ k = acc
  | 0, acc, x, n, r, h => by
    simp [readBits] at h
    simp [lowB, h.1.symm, h.2]
  | k + 1, acc, [], n, r, h => by simp [readBits] at h
  | k + 1, acc, c :: x, n, r, h => by
    rw [readBits] at h
    have hp : n / 2 ^ (k + 1) = n / 2 ^ k / 2 := by rw [Nat.pow_succ, Nat.div_div_eq_div_mul]
    by_cases h1 : c = 48
    · rw [if_pos h1] at h
      obtain ⟨e1, e2⟩ := bits_back k _ x n r h
      refine ⟨?_, by rw [hp, e2]; omega⟩
      rw [lowB, List.cons_append, ← e1, e2, h1, show 2 * acc % 2 = 0 by omega]
      rfl
    · rw [if_neg h1] at h
      by_cases h2 : c = 49
      · rw [if_pos h2] at h
        obtain ⟨e1, e2⟩ := bits_back k _ x n r h
        refine ⟨?_, by rw [hp, e2]; omega⟩
        rw [lowB, List.cons_append, ← e1, e2, h2, show (2 * acc + 1) % 2 = 1 by omega]
        rfl
      · rw [if_neg h2] at h
        cases h

theorem zeros_rep : ∀ (k : Nat) (c : UInt8) (r : List UInt8), c ≠ 48 → zerosOf (List.replicate k 48 ++ c :: r) = k
  | 0, c, r, h => by simp [zerosOf, h]
  | k + 1, c, r, h => by
    rw [List.replicate_succ, List.cons_append, zerosOf, if_pos rfl, zeros_rep k c r h]

theorem zeros_split : ∀ l : List UInt8, l = List.replicate (zerosOf l) 48 ++ l.drop (zerosOf l)
  | [] => rfl
  | c :: l => by
    rw [zerosOf]
    by_cases h : c = 48
    · rw [if_pos h, List.replicate_succ, List.drop_succ_cons, List.cons_append, ← zeros_split l, h]
    · rw [if_neg h]
      simp

theorem dig_is {n z : Nat} (h : n / 2 ^ z = 1) (h1 : n ≤ 1073741824) : dig n = z + 1 := by
  have hp : 0 < 2 ^ z := Nat.pow_pos (by omega)
  have hd := Nat.div_add_mod n (2 ^ z)
  have hm := Nat.mod_lt n hp
  rw [h, Nat.mul_one] at hd
  obtain ⟨a, _, b, c⟩ := dig_bounds (n := n) (by omega) h1
  have hz : n < 2 ^ (z + 1) := by rw [Nat.pow_succ]; omega
  rcases Nat.lt_trichotomy (dig n) (z + 1) with e | e | e
  · have : 2 ^ dig n ≤ 2 ^ z := Nat.pow_le_pow_right (by omega) (by omega)
    omega
  · exact e
  · have : 2 ^ (z + 1) ≤ 2 ^ (dig n - 1) := Nat.pow_le_pow_right (by omega) (by omega)
    omega

theorem one_is {n : Nat} (h0 : 1 ≤ n) (h1 : n ≤ 1073741824) : gammaOne n = List.replicate (dig n - 1) 48 ++ 49 :: lowB (dig n - 1) n := by
  obtain ⟨a, _, b, c⟩ := dig_bounds h0 h1
  unfold gammaOne
  obtain ⟨d, hd⟩ : ∃ d, dig n = d + 1 := ⟨dig n - 1, by omega⟩
  rw [hd] at b c ⊢
  have hq : n / 2 ^ d = 1 := by
    have hp : 0 < 2 ^ d := Nat.pow_pos (by omega)
    rw [Nat.add_sub_cancel] at b
    rw [Nat.pow_succ] at c
    apply Nat.div_eq_of_lt_le <;> omega
  rw [lowB, hq, Nat.add_sub_cancel]
  rfl

theorem read_one {n : Nat} (h0 : 1 ≤ n) (h1 : n ≤ 1073741824) (r : List UInt8) : readOne (gammaOne n ++ r) = some (n, r) := by
  obtain ⟨a, b31, b, c⟩ := dig_bounds h0 h1
  rw [one_is h0 h1, List.append_assoc, List.cons_append]
  unfold readOne
  rw [zeros_rep _ _ _ (by decide), if_neg (by omega), List.drop_left' (by simp), readTail, if_pos rfl, bits_low]
  have e : 1 * 2 ^ (dig n - 1) + n % 2 ^ (dig n - 1) = n := by
    obtain ⟨d, hd⟩ : ∃ d, dig n = d + 1 := ⟨dig n - 1, by omega⟩
    rw [hd] at b c ⊢
    rw [Nat.add_sub_cancel] at b ⊢
    rw [Nat.pow_succ] at c
    have := Nat.mod_eq_sub_mod b
    rw [Nat.mod_eq_of_lt (show n - 2 ^ d < 2 ^ d by omega)] at this
    omega
  rw [e, fits, if_pos h1]

theorem one_read {l : List UInt8} {n : Nat} {r : List UInt8} (h : readOne l = some (n, r)) : l = gammaOne n ++ r ∧ 1 ≤ n ∧ n ≤ 1073741824 := by
  unfold readOne at h
  by_cases h30 : 30 < zerosOf l
  · rw [if_pos h30] at h; cases h
  · rw [if_neg h30] at h
    cases hd : l.drop (zerosOf l) with
    | nil => rw [hd] at h; simp [readTail, fits] at h
    | cons c x =>
      rw [hd, readTail] at h
      by_cases hc : c = 49
      · rw [if_pos hc] at h
        cases hb : readBits (zerosOf l) 1 x with
        | none => rw [hb] at h; simp [fits] at h
        | some v =>
          obtain ⟨m, r'⟩ := v
          rw [hb, fits] at h
          by_cases hm : m ≤ 1073741824
          · rw [if_pos hm] at h
            simp only [Option.some.injEq, Prod.mk.injEq] at h
            obtain ⟨rfl, rfl⟩ := h
            obtain ⟨e1, e2⟩ := bits_back _ _ _ _ _ hb
            have hn : 1 ≤ m := by
              rcases Nat.eq_zero_or_pos m with h0 | h0
              · subst h0; simp at e2
              · exact h0
            refine ⟨?_, hn, hm⟩
            rw [one_is hn hm, dig_is e2 hm, Nat.add_sub_cancel, List.append_assoc, List.cons_append, ← e1, ← hc, ← hd]
            exact zeros_split l
          · rw [if_neg hm] at h; cases h
      · rw [if_neg hc] at h; simp [fits] at h

theorem one_pos {n : Nat} (h0 : 1 ≤ n) (h1 : n ≤ 1073741824) : 1 ≤ (gammaOne n).length := by
  rw [one_is h0 h1]
  simp
  omega

theorem gammaL_cons (z : Int) (zs : List Int) : gammaL (z :: zs) = gammaOne z.toNat ++ gammaL zs := by simp [gammaL]

theorem gammaL_few : ∀ zs : List Int, (∀ z ∈ zs, 1 ≤ z ∧ z ≤ 1073741824) → zs.length ≤ (gammaL zs).length
  | [], _ => by simp
  | z :: zs, h => by
    have h1 := one_pos (n := z.toNat) (by have := h z (by simp); omega) (by have := h z (by simp); omega)
    have h2 := gammaL_few zs fun y hy => h y (by simp [hy])
    rw [gammaL_cons, List.length_append, List.length_cons]
    omega

theorem un_gamma : ∀ (zs acc : List Int) (f : Nat), (∀ z ∈ zs, 1 ≤ z ∧ z ≤ 1073741824) → acc.length + zs.length ≤ 100 → zs.length < f → unL f (gammaL zs) acc = some (acc ++ zs)
  | [], acc, f + 1, _, _, _ => by simp [unL, gammaL]
  | z :: zs, acc, f + 1, h, hl, hf => by
    have hz := h z (by simp)
    have h1 := one_pos (n := z.toNat) (by omega) (by omega)
    rw [gammaL_cons, unL, if_neg (by
      intro e
      have h2 := congrArg List.length e
      rw [List.length_append, List.length_nil] at h2
      omega), read_one (by omega) (by omega)]
    simp only
    rw [if_neg (by simp at hl; omega), show ((z.toNat : Nat) : Int) = z by omega, un_gamma zs (acc ++ [z]) f (fun y hy => h y (by simp [hy])) (by simp at hl ⊢; omega) (by simp at hf; omega)]
    simp
  | _, _, 0, _, _, h => by omega

theorem gamma_un : ∀ (f : Nat) (l : List UInt8) (acc res : List Int), unL f l acc = some res → acc.length ≤ 100 → ∃ zs, res = acc ++ zs ∧ gammaL zs = l ∧ (∀ z ∈ zs, 1 ≤ z ∧ z ≤ 1073741824) ∧ res.length ≤ 100
  | 0, l, acc, res, h, _ => by simp [unL] at h
  | f + 1, l, acc, res, h, ha => by
    rw [unL] at h
    by_cases hl : l = []
    · rw [if_pos hl] at h
      simp only [Option.some.injEq] at h
      subst h
      exact ⟨[], by simp, by rw [hl]; rfl, by simp, ha⟩
    · rw [if_neg hl] at h
      cases hr : readOne l with
      | none => rw [hr] at h; cases h
      | some v =>
        obtain ⟨n, r⟩ := v
        rw [hr] at h
        simp only at h
        by_cases h100 : acc.length = 100
        · rw [if_pos h100] at h; cases h
        · rw [if_neg h100] at h
          obtain ⟨zs, e1, e2, e3, e4⟩ := gamma_un f r (acc ++ [(n : Int)]) res h (by simp; omega)
          obtain ⟨e5, h0, h1⟩ := one_read hr
          refine ⟨(n : Int) :: zs, by rw [e1]; simp, ?_, fun z hz => ?_, e4⟩
          · rw [gammaL_cons, e2, e5]
            simp
          · rcases List.mem_cons.1 hz with rfl | hz
            · omega
            · exact e3 z hz

/-- What is written is read as it was. -/
theorem written {zs : List Int} {s : ByteArray} (hs : s.data.toList = gS zs) (h : gE zs = 0) : uE s = 0 ∧ uV s = zs := by
  unfold gE at h
  by_cases h100 : 100 < zs.length
  · rw [if_pos h100] at h; cases h
  · rw [if_neg h100] at h
    by_cases hg : zs.all goodB = true
    · have hgood : ∀ z ∈ zs, 1 ≤ z ∧ z ≤ 1073741824 := fun z hz => (good_iff z).1 (List.all_eq_true.1 hg z hz)
      have hS : gS zs = gammaL zs := by
        unfold gS
        rw [if_neg h100, if_pos hg]
      rw [hS] at hs
      have hlen := gammaL_length zs hgood
      have hfew := gammaL_few zs hgood
      have hsz : s.size = (gammaL zs).length := by rw [Lib.size_eq, hs]
      refine u_some (by omega) ?_
      unfold uR
      rw [hs, un_gamma zs [] (s.size + 1) hgood (by simp; omega) (by omega)]
      simp
    · rw [if_neg hg] at h; cases h

/-- What is read is written as it was. -/
theorem reread {s : ByteArray} (h : uE s = 0) : gE (uV s) = 0 ∧ gS (uV s) = s.data.toList := by
  unfold uE at h
  by_cases hl : 6100 < s.size
  · rw [if_pos hl] at h; cases h
  · rw [if_neg hl] at h
    cases hr : uR s with
    | none => rw [hr] at h; cases h
    | some l =>
      obtain ⟨_, e⟩ := u_some (by omega) hr
      rw [e]
      unfold uR at hr
      obtain ⟨zs, e1, e2, e3, e4⟩ := gamma_un _ _ _ _ hr (by simp)
      rw [List.nil_append] at e1
      subst e1
      have hg : l.all goodB = true := List.all_eq_true.2 fun z hz => (good_iff z).2 (e3 z hz)
      constructor
      · unfold gE
        rw [if_neg (by omega), if_pos hg]
      · unfold gS
        rw [if_neg (by omega), if_pos hg, e2]
end Go.Proofs.YtkiindkoiomieaaGreatDoor
end

section
/-
  P6: the walk of Numbers.
-/
namespace Go.Proofs.YtkiindkoiomieaaGreatDoor
open Go.RowKit

theorem gS_small (zs : List Int) : (gS zs).length ≤ 9223372036854775807 := by
  unfold gS
  by_cases h1 : 100 < zs.length
  · rw [if_pos h1]
    simp
  · rw [if_neg h1]
    by_cases h2 : zs.all goodB = true
    · rw [if_pos h2]
      have := gammaL_length zs fun z hz => (good_iff z).1 (List.all_eq_true.1 h2 z hz)
      omega
    · rw [if_neg h2]
      simp

set_option maxHeartbeats 4000000 in
set_option maxRecDepth 100000 in
theorem numbers_any (b off len cap : Nat) (w : World) (hlen : len ≤ 9223372036854775807) (hb : b < w.heap.size)
    (hc : ∀ k, k < len → ∃ (na nb : Int) (S T : ByteArray) (la : Option Addr) (ll lc : Nat) (zs : List Int) (lb lo : Nat), w.cell? ⟨b, off + k * 5, none⟩ = some (.int .i64 na) ∧ w.cell? ⟨b, off + k * 5 + 1, none⟩ = some (.int .i64 nb) ∧
      w.cell? ⟨b, off + k * 5 + 2, none⟩ = some (.string S) ∧ w.cell? ⟨b, off + k * 5 + 3, none⟩ = some (.string T) ∧ w.cell? ⟨b, off + k * 5 + 4, none⟩ = some (.slice la ll lc) ∧ T.size ≤ 9223372036854775807 ∧ ll * 8 ≤ 140737488351232 ∧ Ints w la ll zs lb lo)
    (hal : ∀ W, Calls Tryz.prog 14 #[] W fun e w' => e = .returned (.bool true) ∧ Below W.heap.size W w') :
    Calls Tryz.prog 6 #[.slice (some ⟨b, off, none⟩) len cap] w fun e w' => e = .returned (.bool true) ∧ Below w.heap.size w w' := by
  have HC := hide hc
  have HAL := hide hal
  clear hc hal
  go_enter Tryz.func6, Tryz.ntmps6
  go_wp2
  go_loopw [3] (fun i wr => ∃ k : Nat, k ≤ len ∧ i = .int .i64 k ∧ Below w.heap.size w wr) (fun i _ => len - (intOf i).toNat)
  case atStart => exact ⟨0, Nat.zero_le _, rfl, Below.refl _ _⟩
  case round =>
    obtain ⟨k, hk, rfl, hbx⟩ := hrel
    by_cases hlt : k < len
    · by_cases hbig : (k : Int) < 1152921504606846976
      · have hd : decide ((k : Int) < 1152921504606846976) = true := decide_eq_true hbig
        clear hbig
        obtain ⟨na, nb, S, T, la, ll, lc, zs, lb, lo, c0, c1, c2, c3, c4, hT, hL, hI⟩ := HC.out k hlt
        have kc : ∀ o, wr.cell? ⟨b, o, none⟩ = w.cell? ⟨b, o, none⟩ := fun o => hbx.cell (p := ⟨b, o, none⟩) hb
        rw [← kc] at c0 c1 c2 c3 c4
        have hI1 := hide (hI.below hbx)
        clear kc hI
        obtain ⟨X, hX⟩ : ∃ X : ByteArray, X = ⟨(gS zs).toArray⟩ := ⟨_, rfl⟩
        obtain ⟨E, hE⟩ : ∃ E, E = gE zs := ⟨_, rfl⟩
        obtain ⟨F, hF⟩ : ∃ F, F = uE T := ⟨_, rfl⟩
        have hXd : X.data.toList = gS zs := by rw [hX]
        have hwr : E = 0 → uE X = 0 ∧ uV X = zs := fun h => written hXd (by rw [← hE]; exact h)
        have hrr : F = 0 → gE (uV T) = 0 ∧ gS (uV T) = T.data.toList := fun h => reread (by rw [← hF]; exact h)
        have hXm : X.size ≤ 9223372036854775807 := by
          rw [Lib.size_eq, hXd]
          exact gS_small zs
        have HX := hide (And.intro hX (And.intro hE hF))
        have HWR := hide hwr
        have HRR := hide hrr
        clear hX hE hF hXd hwr hrr
        go_wp2_with fail
        obtain ⟨W0, hW0⟩ : ∃ W0, W0 = wr.alloc (.cells #[.int .i64 na, .int .i64 nb, .string S, .string T, .slice la ll lc] 25) := ⟨_, rfl⟩
        rw [← hW0]
        have b0 : Below wr.heap.size wr W0 := by rw [hW0]; exact (Below.refl _ _).alloc (Nat.le_refl _) _
        have n0 : wr.heap.size < W0.heap.size := by rw [hW0]; simp
        have f4 : W0.cell? ⟨wr.heap.size, 4, none⟩ = some (.slice la ll lc) := by rw [hW0]; exact World.cell?_alloc_new wr _ 25 4
        have f3 : W0.cell? ⟨wr.heap.size, 3, none⟩ = some (.string T) := by rw [hW0]; exact World.cell?_alloc_new wr _ 25 3
        have i0 := hI1.out.below b0
        have bw0 := hbx.trans (b0.mono hbx.size)
        clear hW0 c0 c1 c2 c3 c4 hI1 hd
        go_at_call 19
        refine (gamma_any la ll lc zs lb lo W0 i0.hz (by omega) i0.hao i0.hc).mono ?_
        rw [← HX.out.1, ← HX.out.2.1]
        rintro e W1 ⟨rfl, b1⟩
        have e4 : W1.cell? ⟨wr.heap.size, 4, none⟩ = some (.slice la ll lc) := (b1.cell (p := ⟨wr.heap.size, 4, none⟩) n0).trans f4
        have e3 : W1.cell? ⟨wr.heap.size, 3, none⟩ = some (.string T) := (b1.cell (p := ⟨wr.heap.size, 3, none⟩) n0).trans f3
        have i1 := i0.below b1
        have n1 : wr.heap.size < W1.heap.size := Nat.lt_of_lt_of_le n0 b1.size
        have bw1 := bw0.trans (b1.mono bw0.size)
        have I1 := hide i1
        clear i0 i1 f4 f3 b0 b1 bw0 n0
        by_cases hE0 : E = 0
        · have q1 : (E == 0) = true := by simpa using hE0
          obtain ⟨u1, u2⟩ := HWR.out hE0
          have hE1 : E = 0 := hE0
          go_wp2_with (go_at_call 13; refine (num_any _ _).mono ?_; rintro e w' ⟨rfl, hw⟩; rw [hw]; clear hw w')
          go_at_call 20
          refine (ungamma_any X W1 hXm).mono ?_
          rw [u1, u2]
          rintro e W2 ⟨v, rfl, own2, b2⟩
          obtain ⟨ao2, cap2, g2, rfl, v2⟩ := ints_own own2
          have f4 : W2.cell? ⟨wr.heap.size, 4, none⟩ = some (.slice la ll lc) := (b2.cell (p := ⟨wr.heap.size, 4, none⟩) n1).trans e4
          have f3 : W2.cell? ⟨wr.heap.size, 3, none⟩ = some (.string T) := (b2.cell (p := ⟨wr.heap.size, 3, none⟩) n1).trans e3
          have n2 : wr.heap.size < W2.heap.size := Nat.lt_of_lt_of_le n1 b2.size
          have bw2 := bw1.trans (b2.mono bw1.size)
          have I2 := hide (And.intro (I1.out.below b2) v2)
          have hzl := I1.out.hz
          rw [hzl] at I2
          rw [hzl]
          clear own2 v2 e4 e3 I1 b2 hE1
          go_wp2_with fail
          go_at_call 21
          refine (same_any ao2 la ll cap2 lc zs g2 0 lb lo W2 I2.out.1.hz (by omega) (fun h => ⟨(I2.out.2.hao h).1, (I2.out.1.hao h).1⟩) (fun j z hj => ⟨I2.out.2.hc j z hj, I2.out.1.hc j z hj⟩)).mono ?_
          rintro e W3 ⟨rfl, nq, rfl⟩
          clear I2 f4
          have bw3 := below_drewN bw2 nq
          have e3 : (W2.drewN nq).cell? ⟨wr.heap.size, 3, none⟩ = some (.string T) := f3
          have n3 : wr.heap.size < (W2.drewN nq).heap.size := n2
          generalize W2.drewN nq = Wm at bw3 e3 n3
          clear f3 n2 bw2
          go_wp2_with (go_at_call 13; refine (num_any _ _).mono ?_; rintro e w' ⟨rfl, hw⟩; rw [hw]; clear hw w')
          go_at_call 20
          refine (ungamma_any T Wm hT).mono ?_
          rw [← HX.out.2.2]
          rintro e W4 ⟨v4, rfl, own4, b4⟩
          obtain ⟨ao4, cap4, g4, rfl, v4⟩ := ints_own own4
          have f3 : W4.cell? ⟨wr.heap.size, 3, none⟩ = some (.string T) := (b4.cell (p := ⟨wr.heap.size, 3, none⟩) n3).trans e3
          have n4 : wr.heap.size < W4.heap.size := Nat.lt_of_lt_of_le n3 b4.size
          have bw4 := bw3.trans (b4.mono bw3.size)
          have V4 := hide v4
          clear own4 v4 e3 b4
          by_cases hF0 : F = 0
          · have q2 : (F == 0) = true := by simpa using hF0
            obtain ⟨r1, r2⟩ := HRR.out hF0
            obtain ⟨m, hm⟩ : ∃ m, m = (uV T).length := ⟨_, rfl⟩
            rw [← hm] at V4
            rw [← hm]
            have hml : m ≤ 9223372036854775807 := by
              rw [hm]
              exact Nat.le_trans (uV_few T) (by omega)
            clear hm
            have cG := gamma_any ao4 m cap4 (uV T) g4 0 W4 V4.out.hz (by omega) V4.out.hao V4.out.hc
            rw [r1, r2] at cG
            have eT : (⟨T.data.toList.toArray⟩ : ByteArray) = T := rfl
            rw [eT] at cG
            have CG := hide cG
            clear cG eT r1 r2 V4
            go_wp2_with (go_at_call 13; refine (num_any _ _).mono ?_; rintro e w' ⟨rfl, hw⟩; rw [hw]; clear hw w')
            go_at_call 19
            refine CG.out.mono ?_
            rintro e W5 ⟨rfl, b5⟩
            have g3 : W5.cell? ⟨wr.heap.size, 3, none⟩ = some (.string T) := (b5.cell (p := ⟨wr.heap.size, 3, none⟩) n4).trans f3
            have bw5 := bw4.trans (b5.mono bw4.size)
            have q3 : (T.toList != T.toList) = false := by simp
            clear f3 b5
            go_wp2_with (go_at_call 13; refine (num_any _ _).mono ?_; rintro e w' ⟨rfl, hw⟩; rw [hw]; clear hw w')
            go_roundw
            case rel => exact ⟨k + 1, by omega, by go_num, bw5⟩
            case measure => simp [intOf]; omega
          · have q2 : (F == 0) = false := by simpa using hF0
            go_wp2_with (go_at_call 13; refine (num_any _ _).mono ?_; rintro e w' ⟨rfl, hw⟩; rw [hw]; clear hw w')
            go_roundw
            case rel => exact ⟨k + 1, by omega, by go_num, bw4⟩
            case measure => simp [intOf]; omega
        · have q1 : (E == 0) = false := by simpa using hE0
          have bw3 := bw1
          have n3 := n1
          generalize W1 = Wm at bw3 e3 n3
          clear e4 I1 bw1 n1
          go_wp2_with (go_at_call 13; refine (num_any _ _).mono ?_; rintro e w' ⟨rfl, hw⟩; rw [hw]; clear hw w')
          go_at_call 20
          refine (ungamma_any T Wm hT).mono ?_
          rw [← HX.out.2.2]
          rintro e W4 ⟨v4, rfl, own4, b4⟩
          obtain ⟨ao4, cap4, g4, rfl, v4⟩ := ints_own own4
          have f3 : W4.cell? ⟨wr.heap.size, 3, none⟩ = some (.string T) := (b4.cell (p := ⟨wr.heap.size, 3, none⟩) n3).trans e3
          have n4 : wr.heap.size < W4.heap.size := Nat.lt_of_lt_of_le n3 b4.size
          have bw4 := bw3.trans (b4.mono bw3.size)
          have V4 := hide v4
          clear own4 v4 e3 b4
          by_cases hF0 : F = 0
          · have q2 : (F == 0) = true := by simpa using hF0
            obtain ⟨r1, r2⟩ := HRR.out hF0
            obtain ⟨m, hm⟩ : ∃ m, m = (uV T).length := ⟨_, rfl⟩
            rw [← hm] at V4
            rw [← hm]
            have hml : m ≤ 9223372036854775807 := by
              rw [hm]
              exact Nat.le_trans (uV_few T) (by omega)
            clear hm
            have cG := gamma_any ao4 m cap4 (uV T) g4 0 W4 V4.out.hz (by omega) V4.out.hao V4.out.hc
            rw [r1, r2] at cG
            have eT : (⟨T.data.toList.toArray⟩ : ByteArray) = T := rfl
            rw [eT] at cG
            have CG := hide cG
            clear cG eT r1 r2 V4
            go_wp2_with (go_at_call 13; refine (num_any _ _).mono ?_; rintro e w' ⟨rfl, hw⟩; rw [hw]; clear hw w')
            go_at_call 19
            refine CG.out.mono ?_
            rintro e W5 ⟨rfl, b5⟩
            have g3 : W5.cell? ⟨wr.heap.size, 3, none⟩ = some (.string T) := (b5.cell (p := ⟨wr.heap.size, 3, none⟩) n4).trans f3
            have bw5 := bw4.trans (b5.mono bw4.size)
            have q3 : (T.toList != T.toList) = false := by simp
            clear f3 b5
            go_wp2_with (go_at_call 13; refine (num_any _ _).mono ?_; rintro e w' ⟨rfl, hw⟩; rw [hw]; clear hw w')
            go_roundw
            case rel => exact ⟨k + 1, by omega, by go_num, bw5⟩
            case measure => simp [intOf]; omega
          · have q2 : (F == 0) = false := by simpa using hF0
            go_wp2_with (go_at_call 13; refine (num_any _ _).mono ?_; rintro e w' ⟨rfl, hw⟩; rw [hw]; clear hw w')
            go_roundw
            case rel => exact ⟨k + 1, by omega, by go_num, bw4⟩
            case measure => simp [intOf]; omega
      · have hd : decide ((k : Int) < 1152921504606846976) = false := decide_eq_false hbig
        clear hbig
        go_wp2_with (go_at_call 14; refine (HAL.out _).mono ?_; rintro e w1 ⟨rfl, hb1⟩)
        go_ret
        exact ⟨rfl, hbx.trans (hb1.mono hbx.size)⟩
    · go_wp2_with (go_at_call 14; refine (HAL.out _).mono ?_; rintro e w1 ⟨rfl, hb1⟩)
      go_ret
      exact ⟨rfl, hbx.trans (hb1.mono hbx.size)⟩
end Go.Proofs.YtkiindkoiomieaaGreatDoor
end

section
/-
  The card of Numbers.
-/
namespace Go.Proofs.YtkiindkoiomieaaGreatDoor
open Go.ChangeShapes Go.WideShapes Go.ChangeAt Go.RowKit Go.Deep

set_option maxHeartbeats 400000 in
theorem numbers_zero (ao : Option Addr) (cap : Nat) (w : World)
    (hal : ∀ W, Calls Tryz.prog 14 #[] W fun e w' => e = .returned (.bool true) ∧ Below W.heap.size W w') :
    Calls Tryz.prog 6 #[.slice ao 0 cap] w fun e w' => e = .returned (.bool true) ∧ Below w.heap.size w w' := by
  go_enter Tryz.func6, Tryz.ntmps6
  go_wp2
  refine wp_loop_rounds 1 ?_
  rw [rounds_succ]
  go_wp2_with (go_at_call 14; refine (hal _).mono ?_; rintro e w1 ⟨rfl, hb1⟩)
  go_ret
  exact ⟨rfl, hb1⟩

theorem Tryz.bytes3 : Tryz.prog.bytesOf 3 = 8 := by kernel_rfl

section
variable {H : Type}

theorem mem_all {P : Program} {e : TypeId} {d : DataW H} {n : Nat} (hn : n ∈ d.weights P e) : ∀ {l : List (DataW H)}, d ∈ l → n ∈ DataW.weightsAll P e l
  | x :: l, hd => by
    rw [DataW.weightsAll, List.mem_append]
    rcases List.mem_cons.1 hd with h | h
    · subst h
      exact .inl hn
    · exact .inr (mem_all hn h)

/-- The reach of a step's list. -/
theorem list_reach {D : Nat → DataW H} {rest : List (DataW H)} {len k : Nat} {na nb : Int} {S T : List UInt8} {zs : List Int} {sp : List (DataW H)}
    (hsz : (DataW.weightsEach Tryz.prog [22] [.slice ((List.range len).map D) rest]).all (· ≤ reachBytes) = true) (hk : k < len)
    (hD : D k = .agg [.lit (.int .i64 na), .lit (.int .i64 nb), .lit (.string S), .lit (.string T), .slice (lits .i64 zs) sp]) : zs.length * 8 ≤ 140737488351232 := by
  have h1 : ((lits (H := H) .i64 zs).length + sp.length) * Tryz.prog.bytesOf 3 ∈ (DataW.slice (lits .i64 zs) sp).weights Tryz.prog 23 := by
    simp only [DataW.weights, Tryz.underlying23]
    exact List.mem_cons_self ..
  have h2 : ((lits (H := H) .i64 zs).length + sp.length) * Tryz.prog.bytesOf 3 ∈ (D k).weights Tryz.prog 25 := by
    rw [hD]
    simp only [DataW.weights, Tryz.underlying25]
    exact DataW.weights_mem_each (j := 4) rfl rfl _ h1
  have h3 : ((lits (H := H) .i64 zs).length + sp.length) * Tryz.prog.bytesOf 3 ∈ (DataW.slice ((List.range len).map D) rest).weights Tryz.prog 22 := by
    simp only [DataW.weights, Tryz.underlying22]
    exact List.mem_cons_of_mem _ (List.mem_append_left _ (mem_all h2 (List.mem_map.2 ⟨k, List.mem_range.2 hk, rfl⟩)))
  have h4 := DataW.weights_mem_each (j := 0) (ts := [22]) (ds := [.slice ((List.range len).map D) rest]) rfl rfl _ h3
  have h5 := List.all_eq_true.1 hsz _ h4
  rw [Tryz.bytes3] at h5
  simp [lits, reachBytes] at h5
  omega
end

set_option maxHeartbeats 1000000 in
set_option maxRecDepth 100000 in
theorem numbers_lifted (hal : ∀ W, Calls Tryz.prog 14 #[] W fun e w' => e = .returned (.bool true) ∧ Below W.heap.size W w') (os : Os) (started : os.Started) (H : Type) (enc : TypeId × Value → H) :
    ReturnsInHanded {} Tryz.checked os 6 .any (fun w args => (Rows.numbersSpec.pre enc Tryz.prog Tryz.f6 Rows.numbersRow.domain false w args ∧ laidMetH Tryz.prog seatLaid w) ∧ sizedMet enc Tryz.prog Tryz.f6 (OpenSpec.ofChange Rows.numbersSpec) false w args)
      (Rows.numbersSpec.post enc Tryz.prog Tryz.f6 false true false false) := by
  refine returnsInHanded_of_change_and (C := Tryz.checked) (X := fun w _ => laidMetH Tryz.prog seatLaid w) (fun _ _ _ hh h => h.of_heap hh) Tryz.own started (by kernel_rfl) Tryz.func6
    (ChangeSpec.witness_shaped (enc := enc) (C := Tryz.checked) (os := os) (X := fun w _ => laidMetH Tryz.prog seatLaid w) false (World.laidAll Tryz.prog os seatLaid) #[.slice none 0 0] 8 (World.laidAll_os _ _ _)
      (World.shaped_of_ZipB (by kernel_rfl) (by kernel_rfl)) (by kernel_rfl) (by kernel_rfl) (by kernel_rfl)
      (by rw [MakeChecks.laidMetH_plain _ _ _ (by kernel_rfl)]; exact laidMet_laidAll _ (by kernel_rfl) (by kernel_rfl))) ?_
  intro W base args ds gs before hval0 hW hcnd hsz0 _ _
  have hval : ∀ (j : Nat) t v, Tryz.f6.params[j]? = some t → args[j]? = some v → Value.okWide Tryz.prog W .any base t v := hval0
  have hsz : (DataW.weightsEach Tryz.prog (Tryz.f6.params.toList ++ Rows.numbersSpec.plain.varTypes Tryz.prog) (ds ++ gs)).all (· ≤ reachBytes) = true := hsz0
  have hW' := hW
  obtain ⟨p, q, hA0, hV, rfl, _, _⟩ := hW
  have hA : DataW.TrodAll enc Tryz.prog W 0 (fun _ => true) true Tryz.f6.params.toList args.toList ds p := hA0
  rw [Tryz.params6] at hA hval hsz
  obtain ⟨v0, d0, rfl, rfl, h0⟩ := trodAll_one hA
  obtain ⟨rfl, rfl⟩ := trodVars_none hV
  have h0k := h0
  obtain ⟨fuel, hf⟩ := h0
  clear hA0 hval0 hcnd hsz0
  simp only [List.append_nil] at hW'
  have hlt : ∀ x ∈ p, x.block < W.heap.size := fun x hx => by simpa using hW'.lt x hx
  obtain ⟨a0, len, cap, rfl⟩ := okWide_slice Tryz.underlying22 (hval 0 22 v0 rfl rfl)
  have key : Calls Tryz.prog 6 #[.slice a0 len cap] W fun e w' => e = .returned (.bool true) ∧ Below W.heap.size W w' := by
    obtain ⟨hlm, h0len | ⟨b, off, D, rest, rfl, hb, rfl, hop⟩⟩ := open_ops hf hlt
    · subst h0len
      exact numbers_zero a0 cap W hal
    · have hsz' : (DataW.weightsEach Tryz.prog [22] [.slice ((List.range len).map D) rest]).all (· ≤ reachBytes) = true := hsz
      refine numbers_any b off len cap W (by unfold maxLen at hlm; omega) hb (fun k hk => ?_) hal
      obtain ⟨na, nb, S, T, la, ll, lc, zs, dl, ho, hD, hdl⟩ := hop k hk
      have hreach : ll * 8 ≤ 140737488351232 := by
        rcases hdl with ⟨_, h1⟩ | ⟨sp, rfl⟩
        · omega
        · rw [← ho.zl]
          exact list_reach hsz' hk hD
      rcases ho.at_ with ⟨h1, _⟩ | ⟨lb, lo, h1, h2, h3⟩
      · have hzl := ho.zl
        have hz0 : zs = [] := List.eq_nil_of_length_eq_zero (by omega)
        exact ⟨na, nb, S, T, la, ll, lc, zs, 0, 0, ho.cA, ho.cB, ho.cS, ho.cT, ho.cL, by have := ho.sT; unfold maxLen at this; omega, hreach, ho.zl, fun h => by omega, fun j z hj => by rw [hz0] at hj; simp at hj⟩
      · exact ⟨na, nb, S, T, la, ll, lc, zs, lb, lo, ho.cA, ho.cB, ho.cS, ho.cT, ho.cL, by have := ho.sT; unfold maxLen at this; omega, hreach, ho.zl, fun _ => ⟨h1, h2⟩, fun j z hj => by
          have hj' := (List.getElem?_eq_some_iff.1 hj).1
          rw [h3 j (by have := ho.zl; omega)]
          simp [List.getD, hj]⟩
  refine key.mono fun e W' ⟨he, hbel⟩ => ?_
  subst he
  exact ⟨_, rfl, ⟨_, _, _, [], _, [], hW', trodAll_mk1 (shut_bool Tryz.underlying4 true), trodAll_mk1 (Below.trod Tryz.laidOut (by kernel_rfl) (of_decide_eq_true (by kernel_rfl)) h0k hbel hlt), rfl, hbel.frame _, fun h => by cases h⟩⟩

theorem numbers_row : Rows.NumbersSaid :=
  OpenClaim.holds_of_wide 6 Tryz.f6 rfl rfl rfl rfl rfl rfl rfl ⟨rfl, rfl, rfl, rfl, rfl⟩ rfl rfl rfl rfl rfl (by kernel_rfl) Tryz.func6 (by kernel_rfl)
    (of_decide_eq_true (by kernel_rfl)) (by unfold Func.isWrapper; first | (rw [if_pos (by decide +kernel)]; kernel_rfl) | (rw [if_neg (by decide +kernel)]; exact ⟨rfl, rfl⟩))
    (fun os started H enc _ => numbers_lifted alive_any os started H enc)

theorem numbers_card : Rows.NumbersCardSaid :=
  Claim7.holds_tied_plain_at .later [] [.data, .pinned] true _ false
    numbers_row (fun _ h => by cases h) (by kernel_rfl) (fun _ h => by cases h) numbers_row_tie rfl ⟨rfl, rfl⟩ (by kernel_rfl) rfl
    (fun f fn hf hfn => by
      obtain rfl : f = 6 := Option.some.inj ((show Tryz.prog.funcNamed "twine/twinelaw.Numbers" = some 6 by kernel_rfl).symm.trans hf) |>.symm
      obtain rfl : fn = Tryz.f6 := (Option.some.inj (Tryz.func6.symm.trans hfn)).symm
      exact ⟨by kernel_rfl, fun j t ht => by
        rw [Tryz.params6] at ht
        have hm : t ∈ [22] := by simpa using Array.mem_of_getElem? ht
        have hall : ([22].all fun u => !Tryz.prog.wantsStandIn u) = true := by kernel_rfl
        exact (show Tryz.prog.wantsStandIn t = false by simpa using List.all_eq_true.1 hall t hm)⟩)
    (by kernel_rfl)
end Go.Proofs.YtkiindkoiomieaaGreatDoor
end

