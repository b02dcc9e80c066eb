import Derived.Test.YtkiindkoiomieaaGreatDoorRows
import Derived.ProofKit
import Derived.ChangeSlices
import Derived.Deep.Slices
import Derived.Deep.Strs
import Derived.Test.YtkiindkoiomieaaGreatDoorJ05
import Derived.Test.YtkiindkoiomieaaGreatDoorJ04
import Derived.Test.YtkiindkoiomieaaGreatDoorJ09
import Derived.Test.YtkiindkoiomieaaGreatDoorCards
import Derived.Test.YtkiindkoiomieaaGreatDoorTie
import Derived.Test.YtkiindkoiomieaaGreatDoorJ15
section
/-
  A script as data: its steps, each five cells.
-/
namespace Go.Proofs.YtkiindkoiomieaaGreatDoor
open Go.ChangeShapes Go.WideShapes Go.ChangeAt Go.RowKit Go.Deep

theorem Tryz.own : ownKnob Tryz.prog.godebug = none := by kernel_rfl
theorem Tryz.cells25 : Tryz.prog.cellsOf 25 = 5 := by kernel_rfl
theorem Tryz.cells9 : Tryz.prog.cellsOf 9 = 1 := by kernel_rfl
theorem Tryz.cells23 : Tryz.prog.cellsOf 23 = 1 := by kernel_rfl

/-- One step of a script, as it lies at a place of a block. -/
structure OpAt (W : World) (b o : Nat) (na nb : Int) (S T : ByteArray) (la : Option Addr) (ll lc : Nat) (zs : List Int) : Prop where
  cA : W.cell? ⟨b, o, none⟩ = some (.int .i64 na)
  cB : W.cell? ⟨b, o + 1, none⟩ = some (.int .i64 nb)
  cS : W.cell? ⟨b, o + 2, none⟩ = some (.string S)
  cT : W.cell? ⟨b, o + 3, none⟩ = some (.string T)
  cL : W.cell? ⟨b, o + 4, none⟩ = some (.slice la ll lc)
  sS : S.size ≤ maxLen
  sT : T.size ≤ maxLen
  wA : (Lit.int .i64 na).wf = true
  wB : (Lit.int .i64 nb).wf = true
  zl : zs.length = ll
  lm : ll ≤ maxLen
  wz : ∀ z ∈ zs, (Lit.int .i64 z).wf = true
  at_ : (ll = 0 ∧ (la = none → lc = 0)) ∨ ∃ lb lo, la = some ⟨lb, lo, none⟩ ∧ lb < W.heap.size ∧ ∀ j, j < ll → W.cell? ⟨lb, lo + j, none⟩ = some (.int .i64 (zs.getD j 0))

section
variable {H : Type} {enc : TypeId × Value → H}

theorem trod_struct5 {P : Program} {w : World} {base : Nat} {spare : Nat → Bool} {held : Bool} {t : TypeId} {f0 f1 f2 f3 f4 : Field} {fuel : Nat} {cs : List Value} {x : DataW H × List MemPlace}
    (ht : P.underlying t = some (.struct #[f0, f1, f2, f3, f4])) (h : DataW.trod enc P w base spare held fuel t cs = some x) :
    ∃ (y : Nat → DataW H × List MemPlace) (n : Nat), x = (.agg [(y 0).1, (y 1).1, (y 2).1, (y 3).1, (y 4).1], (y 0).2 ++ ((y 1).2 ++ ((y 2).2 ++ ((y 3).2 ++ (y 4).2)))) ∧ cs.length = P.cellsOf t ∧
      ∀ i f, #[f0, f1, f2, f3, f4][i]? = some f → DataW.trod enc P w base spare held n f.type ((cs.drop f.offset).take (P.cellsOf f.type)) = some (y i) := by
  obtain ⟨xs, n, _, rfl, hl, hlen, hf⟩ := DataW.trod_struct ht h
  match xs, hlen with
  | [y0, y1, y2, y3, y4], _ =>
    refine ⟨fun i => [y0, y1, y2, y3, y4].getD i y0, n, by simp, hl, fun i f hi => ?_⟩
    have h1 := hf i f hi
    have hlt : i < 5 := (Array.getElem?_eq_some_iff.1 hi).1
    rw [h1]
    simp [List.getD, List.getElem?_eq_getElem (show i < [y0, y1, y2, y3, y4].length from hlt)]

set_option maxRecDepth 100000 in
theorem open_ops {W : World} {a0 : Option Addr} {len cap fuel : Nat} {d0 : DataW H} {p : List MemPlace}
    (hf : DataW.trod enc Tryz.prog W 0 (fun _ => true) true fuel 22 [.slice a0 len cap] = some (d0, p)) (hlt : ∀ x ∈ p, x.block < W.heap.size) :
    len ≤ maxLen ∧ (len = 0 ∨ ∃ (b off : Nat) (D : Nat → DataW H) (rest : List (DataW H)), a0 = some ⟨b, off, none⟩ ∧ b < W.heap.size ∧ d0 = .slice ((List.range len).map D) rest ∧
      ∀ k, k < len → ∃ na nb S T la ll lc zs dl, OpAt W b (off + k * 5) na nb S T la ll lc zs ∧ D k = .agg [.lit (.int .i64 na), .lit (.int .i64 nb), .lit (.string S.data.toList), .lit (.string T.data.toList), dl] ∧
        ((dl = .nil ∧ ll = 0) ∨ ∃ sp, dl = .slice (lits .i64 zs) sp)) := by
  rcases open_slice Tryz.underlying22 hf with ⟨hcs, hx⟩ | ⟨a, len', cap', m, n, D, Pl, hcs, _, hl, hm, hmm, hx, hel⟩
  · simp at hcs
    obtain ⟨_, rfl, _⟩ := hcs
    exact ⟨Nat.zero_le _, .inl rfl⟩
  · simp at hcs
    obtain ⟨rfl, rfl, rfl⟩ := hcs
    simp only [Prod.mk.injEq] at hx
    obtain ⟨rfl, rfl⟩ := hx
    simp only [if_true] at hmm
    subst hmm
    refine ⟨by omega, ?_⟩
    by_cases h0 : len = 0
    · exact .inl h0
    right
    obtain ⟨b, off, spot⟩ := a
    have hspot : spot = none := by
      obtain ⟨cs', hc0, ht0⟩ := hel 0 (by omega)
      rw [Tryz.cells25] at hc0
      obtain ⟨_, hl5, hcell⟩ := World.cells?_some hc0
      have := hcell 0 (by omega)
      rw [List.getElem?_eq_getElem (by omega)] at this
      simpa [Addr.add] using World.cell?_spot this
    subst hspot
    refine ⟨b, off, D, _, rfl, ?_, rfl, fun k hk => ?_⟩
    · refine hlt (.cell b (off + 0)) (List.mem_append_left _ ?_)
      simp only [MemPlace.row, List.mem_map, List.mem_range]
      exact ⟨0, by rw [Tryz.cells25]; omega, rfl⟩
    · obtain ⟨cs', hc0, ht0⟩ := hel k (by omega)
      rw [Tryz.cells25] at hc0
      obtain ⟨_, hl5, hcell⟩ := World.cells?_some hc0
      obtain ⟨y, n', hD, _, hy⟩ := trod_struct5 Tryz.underlying25 ht0
      simp only [Prod.mk.injEq] at hD
      obtain ⟨c0, c1, c2, c3, c4, rfl⟩ : ∃ c0 c1 c2 c3 c4, cs' = [c0, c1, c2, c3, c4] := by
        match cs', hl5 with
        | [c0, c1, c2, c3, c4], _ => exact ⟨c0, c1, c2, c3, c4, rfl⟩
      obtain ⟨na, h01, h02, wA⟩ := DataW.trod_int Tryz.underlying3 (hy 0 _ rfl)
      obtain ⟨nb, h11, h12, wB⟩ := DataW.trod_int Tryz.underlying3 (hy 1 _ rfl)
      obtain ⟨S, h21, h22, sS⟩ := DataW.trod_string Tryz.underlying9 (hy 2 _ rfl)
      obtain ⟨T, h31, h32, sT⟩ := DataW.trod_string Tryz.underlying9 (hy 3 _ rfl)
      simp [Tryz.cells3] at h01 h11
      simp [Tryz.cells9] at h21 h31
      subst h01 h11 h21 h31
      have r0 := hcell 0 (by omega)
      have r1 := hcell 1 (by omega)
      have r2 := hcell 2 (by omega)
      have r3 := hcell 3 (by omega)
      have r4 := hcell 4 (by omega)
      simp [Addr.add_lit] at r0 r1 r2 r3 r4
      have hP : ∀ x ∈ (y 4).2, x.block < W.heap.size := fun x hx => hlt x (List.mem_append_right _ (List.mem_flatMap.2 ⟨k, List.mem_range.2 (by omega), by rw [hD.2]; simp [hx]⟩))
      rcases open_ints Tryz.underlying23 Tryz.underlying3 Tryz.cells3 (hy 4 _ rfl) with ⟨h41, h42⟩ | ⟨a, ll, lc, zs, h41, _, hll, hlm, hzl, h42, hcz, hwz⟩
      · simp [Tryz.cells23] at h41
        subst h41
        refine ⟨na, nb, S, T, none, 0, 0, [], .nil, ⟨r0, r1, r2, r3, r4, sS, sT, wA, wB, rfl, Nat.zero_le _, by simp, .inl ⟨rfl, fun _ => rfl⟩⟩, ?_, .inl ⟨rfl, rfl⟩⟩
        rw [hD.1, h02, h12, h22, h32, h42]
      · simp [Tryz.cells23] at h41
        subst h41
        simp only [if_true] at hzl
        have hD' : D k = .agg [.lit (.int .i64 na), .lit (.int .i64 nb), .lit (.string S.data.toList), .lit (.string T.data.toList), .slice (lits .i64 (zs.take ll)) (lits .i64 (zs.drop ll))] := by
          rw [hD.1, h02, h12, h22, h32, h42]
        refine ⟨na, nb, S, T, some a, ll, lc, zs.take ll, _, ⟨r0, r1, r2, r3, r4, sS, sT, wA, wB, by simp; omega, by omega, fun z hz => hwz z (List.mem_of_mem_take hz), ?_⟩, hD', .inr ⟨_, rfl⟩⟩
        by_cases hl0 : ll = 0
        · exact .inl ⟨hl0, fun h => by cases h⟩
        · right
          obtain ⟨lb, lo, lsp⟩ := a
          have hls : lsp = none := by simpa [Addr.add] using World.cell?_spot (hcz 0 (by omega))
          subst hls
          refine ⟨lb, lo, rfl, ?_, fun j hj => ?_⟩
          · refine hP (.cell lb (lo + 0)) ?_
            rw [h42]
            simp only [MemPlace.row, List.mem_map, List.mem_range]
            exact ⟨0, by omega, rfl⟩
          · have := hcz j (by omega)
            rw [Addr.add_lit] at this
            rw [this]
            congr 2
            simp [List.getD, hj]
end
end Go.Proofs.YtkiindkoiomieaaGreatDoor
end

section
/-
  P1: the walk of Own.
-/
namespace Go.Proofs.YtkiindkoiomieaaGreatDoor
open Go.RowKit

/-- Which words a call answers: they hang on the text alone. -/
def WordsOf (s : ByteArray) (ws : List (List UInt8)) : Prop := (s.size ≤ 300 → Duv.Good ws ∧ ws.flatten = s.data.toList) ∧ (300 < s.size → ws = [])

theorem WordsOf.unique {s : ByteArray} {ws us : List (List UInt8)} (h : WordsOf s ws) (h' : WordsOf s us) : ws = us := by
  by_cases hs : s.size ≤ 300
  · obtain ⟨a, b⟩ := h.1 hs
    obtain ⟨c, d⟩ := h'.1 hs
    exact Tur.good_unique ws us a c (b.trans d.symm)
  · rw [h.2 (by omega), h'.2 (by omega)]

/-- A list of texts that lies in a block, from the k-th on. -/
def StrsFrom (w : World) (g k : Nat) (ws : List (List UInt8)) : Prop := ∃ cur, w.heap[g]? = some (.cells cur 9 (0, 0)) ∧ ∀ j x, k ≤ j → ws[j]? = some x → cur[j]? = some (strV x)

theorem StrsFrom.cell {w : World} {g k : Nat} {ws : List (List UInt8)} (h : StrsFrom w g k ws) {j : Nat} {x : List UInt8} (hj : k ≤ j) (hx : ws[j]? = some x) : w.cell? ⟨g, j, none⟩ = some (strV x) := by
  obtain ⟨cur, h1, h2⟩ := h
  rw [cell_of_row w g j _ _ _ h1]
  exact h2 j x hj hx

theorem StrsFrom.frozen {w : World} {g k : Nat} {ws : List (List UInt8)} (h : StrsFrom w g k ws) (j : Nat) : w.frozen? ⟨g, j, none⟩ = false := by
  obtain ⟨cur, h1, _⟩ := h
  exact frozen_of_row w g j _ _ h1

theorem StrsFrom.kept {w w' : World} {g k : Nat} {ws : List (List UInt8)} (h : StrsFrom w g k ws) (hh : w'.heap[g]? = w.heap[g]?) : StrsFrom w' g k ws := by
  obtain ⟨cur, h1, h2⟩ := h
  exact ⟨cur, hh.trans h1, h2⟩

theorem StrsFrom.set {w : World} {g k : Nat} {ws : List (List UInt8)} (h : StrsFrom w g k ws) (v : Value) : StrsFrom (w.setCell ⟨g, k, none⟩ v) g (k + 1) ws := by
  obtain ⟨cur, h1, h2⟩ := h
  refine ⟨_, heap_setCell_same w g k cur _ v h1, fun j x hj hx => ?_⟩
  rw [Array.getElem?_setIfInBounds, if_neg (by omega)]
  exact h2 j x (by omega) hx

theorem words_gen (s : ByteArray) (w : World) (hm : s.size ≤ 9223372036854775807) :
    Calls Tryz.prog 11 #[.string s] w fun e w' => ∃ (ao : Option Addr) (cap : Nat) (E : Int) (ws : List (List UInt8)), e = .returned (.tuple #[.slice ao ws.length cap, .int .i64 E]) ∧ ws.length ≤ 300 ∧ WordsOf s ws ∧ (0 < ws.length → ∃ g, ao = some ⟨g, 0, none⟩ ∧ w.heap.size ≤ g ∧ g < w'.heap.size ∧ StrsFrom w' g 0 ws) ∧ Below w.heap.size w w' := by
  by_cases hs : s.size ≤ 300
  · refine (words_short s w hs).mono ?_
    rintro e w' ⟨v, ws, rfl, hrow, hb, hg, hf⟩
    have hl : ws.length ≤ 300 := by
      have h1 := good_few hg
      rw [hf, ← Lib.size_eq] at h1
      omega
    have hW : WordsOf s ws := ⟨fun _ => ⟨hg, hf⟩, fun h => by omega⟩
    rcases hrow.2 with ⟨rfl, h2⟩ | ⟨g, cap, cur, rfl, h3, h4, h5, h6, h7, h8⟩
    · have h0 : ws.length = 0 := h2
      refine ⟨none, 0, 0, ws, by rw [h0], hl, hW, fun h => by omega, hb⟩
    · refine ⟨_, cap, 0, ws, rfl, hl, hW, fun _ => ⟨g, rfl, h3, (Array.getElem?_eq_some_iff.1 h4).1, cur, h4, fun j x _ hx => ?_⟩, hb⟩
      have hj := (List.getElem?_eq_some_iff.1 hx).1
      have h9 : cur.toList[j]? = (ws.map strV)[j]? := by rw [← h8, List.getElem?_take, if_pos (by omega)]
      rw [List.getElem?_map, hx, Array.getElem?_toList] at h9
      exact h9
  · refine (words_long s w (by omega) (by unfold maxLen; omega)).mono ?_
    rintro e w' ⟨rfl, rfl⟩
    exact ⟨none, 0, 1, [], rfl, by simp, ⟨fun h => absurd h hs, fun _ => rfl⟩, fun h => by simp at h, Below.refl _ _⟩

/-- Numbers that lie in a block, from the k-th on. -/
def NumsFrom (w : World) (g k : Nat) (zs : List Int) : Prop := ∃ cur, w.heap[g]? = some (.cells cur 3 (0, 0)) ∧ ∀ j x, k ≤ j → zs[j]? = some x → cur[j]? = some (.int .i64 x)

theorem NumsFrom.cell {w : World} {g k : Nat} {zs : List Int} (h : NumsFrom w g k zs) {j : Nat} {x : Int} (hj : k ≤ j) (hx : zs[j]? = some x) : w.cell? ⟨g, j, none⟩ = some (.int .i64 x) := by
  obtain ⟨cur, h1, h2⟩ := h
  rw [cell_of_row w g j _ _ _ h1]
  exact h2 j x hj hx

theorem NumsFrom.frozen {w : World} {g k : Nat} {zs : List Int} (h : NumsFrom w g k zs) (j : Nat) : w.frozen? ⟨g, j, none⟩ = false := by
  obtain ⟨cur, h1, _⟩ := h
  exact frozen_of_row w g j _ _ h1

theorem NumsFrom.kept {w w' : World} {g k : Nat} {zs : List Int} (h : NumsFrom w g k zs) (hh : w'.heap[g]? = w.heap[g]?) : NumsFrom w' g k zs := by
  obtain ⟨cur, h1, h2⟩ := h
  exact ⟨cur, hh.trans h1, h2⟩

theorem NumsFrom.set {w : World} {g k : Nat} {zs : List Int} (h : NumsFrom w g k zs) (v : Value) : NumsFrom (w.setCell ⟨g, k, none⟩ v) g (k + 1) zs := by
  obtain ⟨cur, h1, h2⟩ := h
  refine ⟨_, heap_setCell_same w g k cur _ v h1, fun j x hj hx => ?_⟩
  rw [Array.getElem?_setIfInBounds, if_neg (by omega)]
  exact h2 j x (by omega) hx

theorem un_gen (s : ByteArray) (w : World) (hm : s.size ≤ 9223372036854775807) :
    Calls Tryz.prog 20 #[.string s] w fun e w' => ∃ (ao : Option Addr) (cap : Nat), e = .returned (.tuple #[.slice ao (uV s).length cap, .int .i64 (uE s)]) ∧ (0 < (uV s).length → ∃ g, ao = some ⟨g, 0, none⟩ ∧ w.heap.size ≤ g ∧ g < w'.heap.size ∧ NumsFrom w' g 0 (uV s)) ∧ Below w.heap.size w w' := by
  refine (ungamma_any s w hm).mono ?_
  rintro e w' ⟨v, rfl, hrow, hb⟩
  rcases hrow.2 with ⟨rfl, h2⟩ | ⟨g, cap, cur, rfl, h3, h4, h5, h6, h7, h8⟩
  · exact ⟨none, 0, by rw [h2], fun h => by omega, hb⟩
  · refine ⟨_, cap, rfl, fun _ => ⟨g, rfl, h3, (Array.getElem?_eq_some_iff.1 h4).1, cur, h4, fun j x _ hx => ?_⟩, hb⟩
    have hj := (List.getElem?_eq_some_iff.1 hx).1
    have h9 : cur.toList[j]? = ((uV s).map (Value.int .i64))[j]? := by rw [← h8, List.getElem?_take, if_pos (by omega)]
    rw [List.getElem?_map, hx, Array.getElem?_toList] at h9
    exact h9

theorem uV_example : uV ⟨#[49, 48, 49, 48]⟩ = [1, 2] := by decide
theorem uE_example : uE ⟨#[49, 48, 49, 48]⟩ = 0 := by decide
end Go.Proofs.YtkiindkoiomieaaGreatDoor
end

section
/-
  Plain mathematics of P6: what is written is read as it was; what is read is written as it was. Nothing of the program.
-/
namespace Go.Proofs.YtkiindkoiomieaaGreatDoor

theorem bits_low : ∀ (j acc n : Nat) (r : List UInt8), readBits j acc (lowB j n ++ r) = some (acc * 2 ^ j + n % 2 ^ j, r)
  | 0, acc, n, r => by simp [readBits, lowB, Nat.mod_one]
  | j + 1, acc, n, r => by
    have hm := Nat.mod_pow_succ (x := n) (b := 2) (k := j)
    rw [lowB, List.cons_append, readBits]
    rw [Nat.pow_succ] at hm ⊢
    rcases Nat.mod_two_eq_zero_or_one (n / 2 ^ j) with h | h
    · rw [h] at hm ⊢
      rw [if_pos (by decide), bits_low j]
      congr 2
      rw [hm, Nat.mul_zero, Nat.add_zero, Nat.mul_comm 2 acc, Nat.mul_assoc, Nat.mul_comm 2]
    · rw [h] at hm ⊢
      rw [if_neg (by decide), if_pos (by decide), bits_low j]
      congr 2
      rw [hm, Nat.mul_one, Nat.add_mul, Nat.one_mul, Nat.mul_comm 2 acc, Nat.mul_assoc, Nat.mul_comm 2 (2 ^ j)]
      omega

theorem bits_back : ∀ (k acc : Nat) (x : List UInt8) (n : Nat) (r : List UInt8), readBits k acc x = some (n, r) → x = lowB k n ++ r ∧ n / 2 ^ k = acc
  | 0, acc, x, n, r, h => by
    simp [readBits] at h
    simp [lowB, h.1.symm, h.2]
  | k + 1, acc, [], n, r, h => by simp [readBits] at h
  | k + 1, acc, c :: x, n, r, h => by
    rw [readBits] at h
    have hp : n / 2 ^ (k + 1) = n / 2 ^ k / 2 := by rw [Nat.pow_succ, Nat.div_div_eq_div_mul]
    by_cases h1 : c = 48
    · rw [if_pos h1] at h
      obtain ⟨e1, e2⟩ := bits_back k _ x n r h
      refine ⟨?_, by rw [hp, e2]; omega⟩
      rw [lowB, List.cons_append, ← e1, e2, h1, show 2 * acc % 2 = 0 by omega]
      rfl
    · rw [if_neg h1] at h
      by_cases h2 : c = 49
      · rw [if_pos h2] at h
        obtain ⟨e1, e2⟩ := bits_back k _ x n r h
        refine ⟨?_, by rw [hp, e2]; omega⟩
        rw [lowB, List.cons_append, ← e1, e2, h2, show (2 * acc + 1) % 2 = 1 by omega]
        rfl
      · rw [if_neg h2] at h
        cases h

theorem zeros_rep : ∀ (k : Nat) (c : UInt8) (r : List UInt8), c ≠ 48 → zerosOf (List.replicate k 48 ++ c :: r) = k
  | 0, c, r, h => by simp [zerosOf, h]
  | k + 1, c, r, h => by
    rw [List.replicate_succ, List.cons_append, zerosOf, if_pos rfl, zeros_rep k c r h]

theorem zeros_split : ∀ l : List UInt8, l = List.replicate (zerosOf l) 48 ++ l.drop (zerosOf l)
  | [] => rfl
  | c :: l => by
    rw [zerosOf]
    by_cases h : c = 48
    · rw [if_pos h, List.replicate_succ, List.drop_succ_cons, List.cons_append, ← zeros_split l, h]
    · rw [if_neg h]
      simp

theorem dig_is {n z : Nat} (h : n / 2 ^ z = 1) (h1 : n ≤ 1073741824) : dig n = z + 1 := by
  have hp : 0 < 2 ^ z := Nat.pow_pos (by omega)
  have hd := Nat.div_add_mod n (2 ^ z)
  have hm := Nat.mod_lt n hp
  rw [h, Nat.mul_one] at hd
  obtain ⟨a, _, b, c⟩ := dig_bounds (n := n) (by omega) h1
  have hz : n < 2 ^ (z + 1) := by rw [Nat.pow_succ]; omega
  rcases Nat.lt_trichotomy (dig n) (z + 1) with e | e | e
  · have : 2 ^ dig n ≤ 2 ^ z := Nat.pow_le_pow_right (by omega) (by omega)
    omega
  · exact e
  · have : 2 ^ (z + 1) ≤ 2 ^ (dig n - 1) := Nat.pow_le_pow_right (by omega) (by omega)
    omega

theorem one_is {n : Nat} (h0 : 1 ≤ n) (h1 : n ≤ 1073741824) : gammaOne n = List.replicate (dig n - 1) 48 ++ 49 :: lowB (dig n - 1) n := by
  obtain ⟨a, _, b, c⟩ := dig_bounds h0 h1
  unfold gammaOne
  obtain ⟨d, hd⟩ : ∃ d, dig n = d + 1 := ⟨dig n - 1, by omega⟩
  rw [hd] at b c ⊢
  have hq : n / 2 ^ d = 1 := by
    have hp : 0 < 2 ^ d := Nat.pow_pos (by omega)
    rw [Nat.add_sub_cancel] at b
    rw [Nat.pow_succ] at c
    apply Nat.div_eq_of_lt_le <;> omega
  rw [lowB, hq, Nat.add_sub_cancel]
  rfl

theorem read_one {n : Nat} (h0 : 1 ≤ n) (h1 : n ≤ 1073741824) (r : List UInt8) : readOne (gammaOne n ++ r) = some (n, r) := by
  obtain ⟨a, b31, b, c⟩ := dig_bounds h0 h1
  rw [one_is h0 h1, List.append_assoc, List.cons_append]
  unfold readOne
  rw [zeros_rep _ _ _ (by decide), if_neg (by omega), List.drop_left' (by simp), readTail, if_pos rfl, bits_low]
  have e : 1 * 2 ^ (dig n - 1) + n % 2 ^ (dig n - 1) = n := by
    obtain ⟨d, hd⟩ : ∃ d, dig n = d + 1 := ⟨dig n - 1, by omega⟩
    rw [hd] at b c ⊢
    rw [Nat.add_sub_cancel] at b ⊢
    rw [Nat.pow_succ] at c
    have := Nat.mod_eq_sub_mod b
    rw [Nat.mod_eq_of_lt (show n - 2 ^ d < 2 ^ d by omega)] at this
    omega
  rw [e, fits, if_pos h1]

theorem one_read {l : List UInt8} {n : Nat} {r : List UInt8} (h : readOne l = some (n, r)) : l = gammaOne n ++ r ∧ 1 ≤ n ∧ n ≤ 1073741824 := by
  unfold readOne at h
  by_cases h30 : 30 < zerosOf l
  · rw [if_pos h30] at h; cases h
  · rw [if_neg h30] at h
    cases hd : l.drop (zerosOf l) with
    | nil => rw [hd] at h; simp [readTail, fits] at h
    | cons c x =>
      rw [hd, readTail] at h
      by_cases hc : c = 49
      · rw [if_pos hc] at h
        cases hb : readBits (zerosOf l) 1 x with
        | none => rw [hb] at h; simp [fits] at h
        | some v =>
          obtain ⟨m, r'⟩ := v
          rw [hb, fits] at h
          by_cases hm : m ≤ 1073741824
          · rw [if_pos hm] at h
            simp only [Option.some.injEq, Prod.mk.injEq] at h
            obtain ⟨rfl, rfl⟩ := h
            obtain ⟨e1, e2⟩ := bits_back _ _ _ _ _ hb
            have hn : 1 ≤ m := by
              rcases Nat.eq_zero_or_pos m with h0 | h0
              · subst h0; simp at e2
              · exact h0
            refine ⟨?_, hn, hm⟩
            rw [one_is hn hm, dig_is e2 hm, Nat.add_sub_cancel, List.append_assoc, List.cons_append, ← e1, ← hc, ← hd]
            exact zeros_split l
          · rw [if_neg hm] at h; cases h
      · rw [if_neg hc] at h; simp [fits] at h

theorem one_pos {n : Nat} (h0 : 1 ≤ n) (h1 : n ≤ 1073741824) : 1 ≤ (gammaOne n).length := by
  rw [one_is h0 h1]
  simp
  omega

theorem gammaL_cons (z : Int) (zs : List Int) : gammaL (z :: zs) = gammaOne z.toNat ++ gammaL zs := by simp [gammaL]

theorem gammaL_few : ∀ zs : List Int, (∀ z ∈ zs, 1 ≤ z ∧ z ≤ 1073741824) → zs.length ≤ (gammaL zs).length
  | [], _ => by simp
  | z :: zs, h => by
    have h1 := one_pos (n := z.toNat) (by have := h z (by simp); omega) (by have := h z (by simp); omega)
    have h2 := gammaL_few zs fun y hy => h y (by simp [hy])
    rw [gammaL_cons, List.length_append, List.length_cons]
    omega

theorem un_gamma : ∀ (zs acc : List Int) (f : Nat), (∀ z ∈ zs, 1 ≤ z ∧ z ≤ 1073741824) → acc.length + zs.length ≤ 100 → zs.length < f → unL f (gammaL zs) acc = some (acc ++ zs)
  | [], acc, f + 1, _, _, _ => by simp [unL, gammaL]
  | z :: zs, acc, f + 1, h, hl, hf => by
    have hz := h z (by simp)
    have h1 := one_pos (n := z.toNat) (by omega) (by omega)
    rw [gammaL_cons, unL, if_neg (by
      intro e
      have h2 := congrArg List.length e
      rw [List.length_append, List.length_nil] at h2
      omega), read_one (by omega) (by omega)]
    simp only
    rw [if_neg (by simp at hl; omega), show ((z.toNat : Nat) : Int) = z by omega, un_gamma zs (acc ++ [z]) f (fun y hy => h y (by simp [hy])) (by simp at hl ⊢; omega) (by simp at hf; omega)]
    simp
  | _, _, 0, _, _, h => by omega

theorem gamma_un : ∀ (f : Nat) (l : List UInt8) (acc res : List Int), unL f l acc = some res → acc.length ≤ 100 → ∃ zs, res = acc ++ zs ∧ gammaL zs = l ∧ (∀ z ∈ zs, 1 ≤ z ∧ z ≤ 1073741824) ∧ res.length ≤ 100
  | 0, l, acc, res, h, _ => by simp [unL] at h
  | f + 1, l, acc, res, h, ha => by
    rw [unL] at h
    by_cases hl : l = []
    · rw [if_pos hl] at h
      simp only [Option.some.injEq] at h
      subst h
      exact ⟨[], by simp, by rw [hl]; rfl, by simp, ha⟩
    · rw [if_neg hl] at h
      cases hr : readOne l with
      | none => rw [hr] at h; cases h
      | some v =>
        obtain ⟨n, r⟩ := v
        rw [hr] at h
        simp only at h
        by_cases h100 : acc.length = 100
        · rw [if_pos h100] at h; cases h
        · rw [if_neg h100] at h
          obtain ⟨zs, e1, e2, e3, e4⟩ := gamma_un f r (acc ++ [(n : Int)]) res h (by simp; omega)
          obtain ⟨e5, h0, h1⟩ := one_read hr
          refine ⟨(n : Int) :: zs, by rw [e1]; simp, ?_, fun z hz => ?_, e4⟩
          · rw [gammaL_cons, e2, e5]
            simp
          · rcases List.mem_cons.1 hz with rfl | hz
            · omega
            · exact e3 z hz

/-- What is written is read as it was. -/
theorem written {zs : List Int} {s : ByteArray} (hs : s.data.toList = gS zs) (h : gE zs = 0) : uE s = 0 ∧ uV s = zs := by
  unfold gE at h
  by_cases h100 : 100 < zs.length
  · rw [if_pos h100] at h; cases h
  · rw [if_neg h100] at h
    by_cases hg : zs.all goodB = true
    · have hgood : ∀ z ∈ zs, 1 ≤ z ∧ z ≤ 1073741824 := fun z hz => (good_iff z).1 (List.all_eq_true.1 hg z hz)
      have hS : gS zs = gammaL zs := by
        unfold gS
        rw [if_neg h100, if_pos hg]
      rw [hS] at hs
      have hlen := gammaL_length zs hgood
      have hfew := gammaL_few zs hgood
      have hsz : s.size = (gammaL zs).length := by rw [Lib.size_eq, hs]
      refine u_some (by omega) ?_
      unfold uR
      rw [hs, un_gamma zs [] (s.size + 1) hgood (by simp; omega) (by omega)]
      simp
    · rw [if_neg hg] at h; cases h

/-- What is read is written as it was. -/
theorem reread {s : ByteArray} (h : uE s = 0) : gE (uV s) = 0 ∧ gS (uV s) = s.data.toList := by
  unfold uE at h
  by_cases hl : 6100 < s.size
  · rw [if_pos hl] at h; cases h
  · rw [if_neg hl] at h
    cases hr : uR s with
    | none => rw [hr] at h; cases h
    | some l =>
      obtain ⟨_, e⟩ := u_some (by omega) hr
      rw [e]
      unfold uR at hr
      obtain ⟨zs, e1, e2, e3, e4⟩ := gamma_un _ _ _ _ hr (by simp)
      rw [List.nil_append] at e1
      subst e1
      have hg : l.all goodB = true := List.all_eq_true.2 fun z hz => (good_iff z).2 (e3 z hz)
      constructor
      · unfold gE
        rw [if_neg (by omega), if_pos hg]
      · unfold gS
        rw [if_neg (by omega), if_pos hg, e2]
end Go.Proofs.YtkiindkoiomieaaGreatDoor
end

section
/-
  P1: the walk of Own, given that alive says yes.
-/
namespace Go.Proofs.YtkiindkoiomieaaGreatDoor
open Go.RowKit

theorem grownB_trans {a b c : World} {row : Option Nat} (h : a.grownBy b row) (h' : b.grownBy c row) : a.grownBy c row :=
  ⟨h'.os.trans h.os, h'.tape.trans h.tape, h'.output.trans h.output, Nat.le_trans h.size h'.size, fun k hk hne => (h'.block k (Nat.lt_of_lt_of_le hk h.size) hne).trans (h.block k hk hne)⟩
theorem grownB_drewN {a b : World} {row : Option Nat} (h : a.grownBy b row) (n : Nat) : a.grownBy (b.drewN n) row := ⟨h.os, h.tape, h.output, h.size, h.block⟩
theorem grownB_refl (a : World) (row : Option Nat) : a.grownBy a row := ⟨rfl, rfl, rfl, Nat.le_refl _, fun _ _ _ => rfl⟩
theorem grownB_setCell (w : World) (g o : Nat) (v : Value) : w.grownBy (w.setCell ⟨g, o, none⟩ v) (some g) := by
  refine ⟨rfl, rfl, rfl, by simp, fun k hk hne => ?_⟩
  exact heap_setCell_other _ _ _ _ (fun e => hne (by rw [e]))

theorem uV_bound {T : ByteArray} {zs : List Int} (h : zs = uV T) : ∀ z ∈ zs, z ≤ 1073741824 ∧ 1 ≤ z := by
  by_cases h0 : uE T = 0
  · have h1 := (reread h0).1
    rw [← h] at h1
    unfold gE at h1
    by_cases h2 : 100 < zs.length
    · rw [if_pos h2] at h1; cases h1
    · rw [if_neg h2] at h1
      by_cases h3 : zs.all goodB = true
      · intro z hz
        have := (good_iff z).1 (List.all_eq_true.1 h3 z hz)
        omega
      · rw [if_neg h3] at h1; cases h1
  · have : zs = [] := by
      rw [h]
      unfold uE at h0
      unfold uV
      by_cases hl : 6100 < T.size
      · rw [if_pos hl]
      · rw [if_neg hl] at h0 ⊢
        cases hr : uR T with
        | none => rfl
        | some l => rw [hr] at h0; exact absurd rfl h0
    rw [this]
    simp

theorem cell_heap {w w' : World} {g i : Nat} (h : w'.heap[g]? = w.heap[g]?) : w'.cell? ⟨g, i, none⟩ = w.cell? ⟨g, i, none⟩ := by
  simp only [World.cell?, h]

theorem cell_put {w : World} {p : Addr} {u v : Value} (h : w.cell? p = some u) : (w.setCell p v).cell? p = some v := World.cell?_setCell_same w p v h

theorem some_ne {a b : Nat} (h : a ≠ b) : some a ≠ some b := fun e => h (Option.some.inj e)

set_option maxHeartbeats 4000000 in
set_option maxRecDepth 100000 in
theorem own_any (b off len cap : Nat) (w : World) (hlen : len ≤ 9223372036854775807) (hb : b < w.heap.size)
    (hc : ∀ k, k < len → ∃ (na nb : Int) (S T : ByteArray) (la : Option Addr) (ll lc : Nat), w.cell? ⟨b, off + k * 5, none⟩ = some (.int .i64 na) ∧ w.cell? ⟨b, off + k * 5 + 1, none⟩ = some (.int .i64 nb) ∧
      w.cell? ⟨b, off + k * 5 + 2, none⟩ = some (.string S) ∧ w.cell? ⟨b, off + k * 5 + 3, none⟩ = some (.string T) ∧ w.cell? ⟨b, off + k * 5 + 4, none⟩ = some (.slice la ll lc) ∧ S.size ≤ 9223372036854775807 ∧ T.size ≤ 9223372036854775807)
    (hal : ∀ W, Calls Tryz.prog 14 #[] W fun e w' => e = .returned (.bool true) ∧ Below W.heap.size W w') :
    Calls Tryz.prog 9 #[.slice (some ⟨b, off, none⟩) len cap] w fun e w' => e = .returned (.bool true) ∧ Below w.heap.size w w' := by
  have HC := hide hc
  have HAL := hide hal
  clear hc hal
  go_enter Tryz.func9, Tryz.ntmps9
  go_wp2
  go_loopw [3] (fun i wr => ∃ k : Nat, k ≤ len ∧ i = .int .i64 k ∧ Below w.heap.size w wr) (fun i _ => len - (intOf i).toNat)
  case atStart => exact ⟨0, Nat.zero_le _, rfl, Below.refl _ _⟩
  case round =>
    obtain ⟨k, hk, rfl, hbx⟩ := hrel
    by_cases hlt : k < len
    · by_cases hbig : (k : Int) < 1152921504606846976
      · have hd : decide ((k : Int) < 1152921504606846976) = true := decide_eq_true hbig
        clear hbig
        obtain ⟨na, nb, S, T, la, ll, lc, c0, c1, c2, c3, c4, hS, hT⟩ := HC.out k hlt
        have kc : ∀ o, wr.cell? ⟨b, o, none⟩ = w.cell? ⟨b, o, none⟩ := fun o => hbx.cell (p := ⟨b, o, none⟩) hb
        rw [← kc] at c0 c1 c2 c3 c4
        clear kc
        rename World => wo
        go_wp2_with fail
        obtain ⟨W0, hW0⟩ : ∃ W0, W0 = wo.alloc (.cells #[.int .i64 na, .int .i64 nb, .string S, .string T, .slice la ll lc] 25) := ⟨_, rfl⟩
        rw [← hW0]
        have b0 : Below wo.heap.size wo W0 := by rw [hW0]; exact (Below.refl _ _).alloc (Nat.le_refl _) _
        have n0 : wo.heap.size < W0.heap.size := by rw [hW0]; simp
        have f2 : W0.cell? ⟨wo.heap.size, 2, none⟩ = some (.string S) := by rw [hW0]; exact World.cell?_alloc_new wo _ 25 2
        have f3 : W0.cell? ⟨wo.heap.size, 3, none⟩ = some (.string T) := by rw [hW0]; exact World.cell?_alloc_new wo _ 25 3
        have bw0 := hbx.trans (b0.mono hbx.size)
        have hwo := hbx.size
        clear hW0 c0 c1 c2 c3 c4 hd b0
        go_at_call 11
        refine (words_gen S W0 hS).mono ?_
        rintro e W1 ⟨ao1, cap1, E1, ws, rfl, hwl, hw1, h1, b1⟩
        have e2 : W1.cell? ⟨wo.heap.size, 2, none⟩ = some (.string S) := (b1.cell (p := ⟨wo.heap.size, 2, none⟩) n0).trans f2
        have e3 : W1.cell? ⟨wo.heap.size, 3, none⟩ = some (.string T) := (b1.cell (p := ⟨wo.heap.size, 3, none⟩) n0).trans f3
        have n1 : wo.heap.size < W1.heap.size := Nat.lt_of_lt_of_le n0 b1.size
        have bw1 := bw0.trans (b1.mono bw0.size)
        obtain ⟨ga, hga1, hga2, hA⟩ : ∃ ga, wo.heap.size ≤ ga ∧ ga < W1.heap.size ∧ (0 < ws.length → ao1 = some ⟨ga, 0, none⟩ ∧ StrsFrom W1 ga 0 ws) := by
          by_cases hp : 0 < ws.length
          · obtain ⟨g, q1, q2, q3, q4⟩ := h1 hp
            exact ⟨g, by omega, q3, fun _ => ⟨q1, q4⟩⟩
          · exact ⟨wo.heap.size, Nat.le_refl _, n1, fun h => absurd h hp⟩
        have HXL : Hid (∀ x ∈ ws, x.length ≤ 300) := fun x hx => by
          by_cases hs3 : S.size ≤ 300
          · obtain ⟨_, q⟩ := hw1.1 hs3
            have := (List.sublist_flatten_of_mem hx).length_le
            rw [q, ← Lib.size_eq] at this
            omega
          · rw [hw1.2 (by omega)] at hx
            simp at hx
        have HA := hide hA
        have HW1 := hide hw1
        clear f2 f3 b1 bw0 h1 hA hw1 n0
        go_wp2_with fail
        go_at_call 11
        refine (words_gen _ W1 (by decide)).mono ?_
        rintro e W2 ⟨ao2, cap2, E2, us, rfl, hul, hw2, h2, b2⟩
        have hup : 0 < us.length := by
          obtain ⟨_, q⟩ := hw2.1 (by decide)
          rcases Nat.eq_zero_or_pos us.length with h0 | h0
          · rw [List.eq_nil_of_length_eq_zero h0] at q
            simp at q
          · exact h0
        obtain ⟨gb, rfl, hgb1, hgb2, hB⟩ := h2 hup
        obtain ⟨x0, hx0⟩ : ∃ x0, us[0]? = some x0 := ⟨_, List.getElem?_eq_getElem hup⟩
        obtain ⟨B0, hB0⟩ : ∃ B0 : ByteArray, Value.string B0 = strV x0 := ⟨_, rfl⟩
        have cb2 := hB.cell (Nat.le_refl 0) hx0
        rw [← hB0] at cb2
        have f2 : W2.cell? ⟨wo.heap.size, 2, none⟩ = some (.string S) := (b2.cell (p := ⟨wo.heap.size, 2, none⟩) n1).trans e2
        have f3 : W2.cell? ⟨wo.heap.size, 3, none⟩ = some (.string T) := (b2.cell (p := ⟨wo.heap.size, 3, none⟩) n1).trans e3
        have n2 : wo.heap.size < W2.heap.size := Nat.lt_of_lt_of_le n1 b2.size
        have bw2 := bw1.trans (b2.mono bw1.size)
        clear e2 e3 bw1 h2 hw2 hB hx0 hB0
        go_wp2_with fail
        go_at_call 11
        refine (words_gen S W2 hS).mono ?_
        rintro e W3 ⟨ao3, cap3, E3, ws', rfl, _, hw3, h3, b3⟩
        have hww : ws' = ws := hw3.unique HW1.out
        subst hww
        obtain ⟨gc, hC⟩ : ∃ gc, 0 < ws'.length → ao3 = some ⟨gc, 0, none⟩ ∧ W2.heap.size ≤ gc ∧ gc < W3.heap.size ∧ StrsFrom W3 gc 0 ws' := by
          by_cases hp : 0 < ws'.length
          · obtain ⟨g, q1, q2, q3, q4⟩ := h3 hp
            exact ⟨g, fun _ => ⟨q1, q2, q3, q4⟩⟩
          · exact ⟨0, fun h => absurd h hp⟩
        have HCC := hide hC
        have e3 : W3.cell? ⟨wo.heap.size, 3, none⟩ = some (.string T) := (b3.cell (p := ⟨wo.heap.size, 3, none⟩) n2).trans f3
        have n3 : wo.heap.size < W3.heap.size := Nat.lt_of_lt_of_le n2 b3.size
        have bw3 := bw2.trans (b3.mono bw2.size)
        clear f2 f3 bw2 h3 hw3 hC HW1
        go_wp2_with fail
        go_at_call 20
        refine (un_gen T W3 hT).mono ?_
        obtain ⟨zs, hzs⟩ : ∃ zs, zs = uV T := ⟨_, rfl⟩
        obtain ⟨F, hF⟩ : ∃ F, F = uE T := ⟨_, rfl⟩
        have hzl : zs.length ≤ 100 := by rw [hzs]; exact uV_few T
        have hzb : ∀ z ∈ zs, z ≤ 1073741824 ∧ 1 ≤ z := uV_bound hzs
        rw [← hzs, ← hF]
        rintro e W4 ⟨ao4, cap4, rfl, h4, b4⟩
        obtain ⟨gx, hgx1, hgx2, hX⟩ : ∃ gx, (gx = wo.heap.size ∨ W3.heap.size ≤ gx) ∧ gx < W4.heap.size ∧ (0 < zs.length → ao4 = some ⟨gx, 0, none⟩ ∧ NumsFrom W4 gx 0 zs ∧ W3.heap.size ≤ gx) := by
          by_cases hp : 0 < zs.length
          · obtain ⟨g, q1, q2, q3, q4⟩ := h4 hp
            exact ⟨g, .inr q2, q3, fun _ => ⟨q1, q4, q2⟩⟩
          · exact ⟨wo.heap.size, .inl rfl, Nat.lt_of_lt_of_le n3 b4.size, fun h => absurd h hp⟩
        have HXX := hide hX
        have HZS := hide (And.intro hzs hF)
        have HZB := hide hzb
        have f3 : W4.cell? ⟨wo.heap.size, 3, none⟩ = some (.string T) := (b4.cell (p := ⟨wo.heap.size, 3, none⟩) n3).trans e3
        have n4 : wo.heap.size < W4.heap.size := Nat.lt_of_lt_of_le n3 b4.size
        have bw4 := bw3.trans (b4.mono bw3.size)
        clear e3 bw3 h4 hX hzs hF hzb
        go_wp2_with fail
        go_at_call 20
        refine (un_gen _ W4 (by decide)).mono ?_
        rw [uV_example, uE_example]
        rintro e W5 ⟨ao5, cap5, rfl, h5, b5⟩
        obtain ⟨gy, rfl, hgy1, hgy2, hY⟩ := h5 (by decide)
        have cy0 := hY.cell (Nat.le_refl 0) (x := 1) rfl
        have cy1 := hY.cell (Nat.zero_le 1) (x := 2) rfl
        have e3 : W5.cell? ⟨wo.heap.size, 3, none⟩ = some (.string T) := (b5.cell (p := ⟨wo.heap.size, 3, none⟩) n4).trans f3
        have n5 : wo.heap.size < W5.heap.size := Nat.lt_of_lt_of_le n4 b5.size
        have bw5 := bw4.trans (b5.mono bw4.size)
        clear f3 bw4 h5 hY
        go_wp2_with fail
        go_at_call 20
        refine (un_gen T W5 hT).mono ?_
        rw [← HZS.out.1, ← HZS.out.2]
        rintro e W6 ⟨ao6, cap6, rfl, h6, b6⟩
        obtain ⟨gz, hZ⟩ : ∃ gz, 0 < zs.length → ao6 = some ⟨gz, 0, none⟩ ∧ W5.heap.size ≤ gz ∧ gz < W6.heap.size ∧ NumsFrom W6 gz 0 zs := by
          by_cases hp : 0 < zs.length
          · obtain ⟨g, q1, q2, q3, q4⟩ := h6 hp
            exact ⟨g, fun _ => ⟨q1, q2, q3, q4⟩⟩
          · exact ⟨0, fun h => absurd h hp⟩
        have s1 := b2.size
        have s2 := b3.size
        have s3 := b4.size
        have s4 := b5.size
        have s5 := b6.size
        have k5 : ∀ i, i < W5.heap.size → W6.heap[i]? = W5.heap[i]? := fun i hi => b6.block i hi
        have k4 : ∀ i, i < W4.heap.size → W6.heap[i]? = W4.heap[i]? := fun i hi => (k5 i (by omega)).trans (b5.block i hi)
        have k3 : ∀ i, i < W3.heap.size → W6.heap[i]? = W3.heap[i]? := fun i hi => (k4 i (by omega)).trans (b4.block i hi)
        have k2 : ∀ i, i < W2.heap.size → W6.heap[i]? = W2.heap[i]? := fun i hi => (k3 i (by omega)).trans (b3.block i hi)
        have k1 : ∀ i, i < W1.heap.size → W6.heap[i]? = W1.heap[i]? := fun i hi => (k2 i (by omega)).trans (b2.block i hi)
        have cb6 : W6.cell? ⟨gb, 0, none⟩ = some (.string B0) := (cell_heap (k2 gb hgb2)).trans cb2
        have cy0' : W6.cell? ⟨gy, 0, none⟩ = some (.int .i64 1) := (cell_heap (k5 gy hgy2)).trans cy0
        have cy1' : W6.cell? ⟨gy, 1, none⟩ = some (.int .i64 2) := (cell_heap (k5 gy hgy2)).trans cy1
        have HA6 : Hid (0 < ws'.length → ao1 = some ⟨ga, 0, none⟩ ∧ StrsFrom W6 ga 0 ws') := fun h => ⟨(HA.out h).1, (HA.out h).2.kept (k1 ga hga2)⟩
        have HC6 : Hid (0 < ws'.length → ao3 = some ⟨gc, 0, none⟩ ∧ gc ≠ ga ∧ gc < W6.heap.size ∧ StrsFrom W6 gc 0 ws') := fun h => by
          obtain ⟨q1, q2, q3, q4⟩ := HCC.out h
          exact ⟨q1, by omega, by omega, q4.kept (k3 gc q3)⟩
        have HX6 : Hid (0 < zs.length → ao4 = some ⟨gx, 0, none⟩ ∧ NumsFrom W6 gx 0 zs) := fun h => ⟨(HXX.out h).1, (HXX.out h).2.1.kept (k4 gx hgx2)⟩
        have HZ6 : Hid (0 < zs.length → ao6 = some ⟨gz, 0, none⟩ ∧ gz ≠ gx ∧ gz ≠ ga ∧ gz < W6.heap.size ∧ NumsFrom W6 gz 0 zs) := fun h => by
          obtain ⟨q1, q2, q3, q4⟩ := hZ h
          exact ⟨q1, by omega, by omega, q3, q4⟩
        have HX7 : Hid (0 < zs.length → gx ≠ ga) := fun h => by
          have := (HXX.out h).2.2
          omega
        have d1 : gb ≠ ga := by omega
        have d2 : gy ≠ ga := by omega
        have d3 : gb ≠ gx := by rcases hgx1 with h | h <;> omega
        have d4 : gy ≠ gx := by rcases hgx1 with h | h <;> omega
        have hgb6 : gb < W6.heap.size := by omega
        have hgy6 : gy < W6.heap.size := by omega
        have hgx6 : gx < W6.heap.size := by omega
        have hga6 : ga < W6.heap.size := by omega
        have hgxw : w.heap.size ≤ gx := by rcases hgx1 with h | h <;> omega
        have hgaw : w.heap.size ≤ ga := by omega
        have bw6 := bw5.trans (b6.mono bw5.size)
        clear k1 k2 k3 k4 k5 h6 hZ HA HCC HXX cb2 cy0 cy1 e3 n1 n2 n3 n4 n5 b2 b3 b4 b5 b6 bw5 s1 s2 s3 s4 s5 hgx1 hgx2 hga1 hga2 hgb1 hgb2 hgy1 hgy2
        have cS := same_any ao4 ao6 zs.length cap4 cap6 zs gx 0 gz 0 W6 rfl (by omega) (fun h => ⟨(HX6.out h).1, (HZ6.out h).1⟩) (fun j z hj => by
          have hp : 0 < zs.length := by have := (List.getElem?_eq_some_iff.1 hj).1; omega
          rw [Nat.zero_add]
          exact ⟨(HX6.out hp).2.cell (Nat.zero_le _) hj, (HZ6.out hp).2.2.2.2.cell (Nat.zero_le _) hj⟩)
        have CS := hide cS
        clear cS
        go_wp2_with fail
        go_at_call 21
        refine CS.out.mono ?_
        rintro e W7 ⟨rfl, nq, rfl⟩
        have q1 : ((ws'.length : Int) != (ws'.length : Int)) = false := by simp
        have q2 : decide ((us.length : Int) < 1) = false := decide_eq_false (by omega)
        have q3 : (0 : Int) < (us.length : Int) := by omega
        clear CS
        have y0 : (W6.drewN nq).cell? ⟨gy, 0, none⟩ = some (.int .i64 1) := cy0'
        have y1 : (W6.drewN nq).cell? ⟨gy, 1, none⟩ = some (.int .i64 2) := cy1'
        have bb : (W6.drewN nq).cell? ⟨gb, 0, none⟩ = some (.string B0) := cb6
        go_wp2
        have bw7 := below_drewN bw6 nq
        have HA7 : Hid (0 < ws'.length → ao1 = some ⟨ga, 0, none⟩ ∧ StrsFrom (W6.drewN nq) ga 0 ws') := HA6
        have HC7 : Hid (0 < ws'.length → ao3 = some ⟨gc, 0, none⟩ ∧ gc ≠ ga ∧ gc < (W6.drewN nq).heap.size ∧ StrsFrom (W6.drewN nq) gc 0 ws') := HC6
        have HX8 : Hid (0 < zs.length → ao4 = some ⟨gx, 0, none⟩ ∧ NumsFrom (W6.drewN nq) gx 0 zs) := HX6
        have HZ7 : Hid (0 < zs.length → ao6 = some ⟨gz, 0, none⟩ ∧ gz ≠ gx ∧ gz ≠ ga ∧ gz < (W6.drewN nq).heap.size ∧ NumsFrom (W6.drewN nq) gz 0 zs) := HZ6
        have m1 : gb < (W6.drewN nq).heap.size := hgb6
        have m2 : gy < (W6.drewN nq).heap.size := hgy6
        have m3 : gx < (W6.drewN nq).heap.size := hgx6
        generalize W6.drewN nq = W7 at bw7 HA7 HC7 HX8 HZ7 y0 y1 bb m1 m2 m3
        clear HA6 HC6 HX6 HZ6 cb6 cy0' cy1' hgb6 hgy6 hgx6 hga6 bw6
        go_loopw [19] (fun jv wr => ∃ j : Nat, j ≤ ws'.length ∧ jv = .int .i64 j ∧ Hid (0 < ws'.length → StrsFrom wr ga j ws') ∧ W7.grownBy wr (some ga)) (fun jv _ => ws'.length - (intOf jv).toNat)
        case atStart => exact ⟨0, by omega, rfl, hide (fun h => (HA7.out h).2), grownB_refl _ _⟩
        case round =>
          obtain ⟨j, hj, rfl, HS, hgr⟩ := hrel
          by_cases hlj : j < ws'.length
          · have hp : 0 < ws'.length := by omega
            obtain ⟨x, hx⟩ : ∃ x, ws'[j]? = some x := ⟨_, List.getElem?_eq_getElem hlj⟩
            obtain ⟨X, hX⟩ : ∃ X : ByteArray, Value.string X = strV x := ⟨_, rfl⟩
            obtain ⟨rfl, _⟩ := HA7.out hp
            obtain ⟨rfl, hne, hgc, hSc⟩ := HC7.out hp
            have ca := (HS.out hp).cell (Nat.le_refl j) hx
            have fa := (HS.out hp).frozen j
            have cc : wr.cell? ⟨gc, j, none⟩ = some (strV x) := (cell_heap (hgr.block gc hgc (some_ne hne))).trans (hSc.cell (Nat.zero_le j) hx)
            rw [← hX] at ca cc
            have i1 : (0 : Int) ≤ (j : Int) := by omega
            have i2 : (j : Int) < (ws'.length : Int) := by omega
            have z1 : (X.toList != X.toList) = false := by simp
            have z2 : ((X ++ (⟨#[120]⟩ : ByteArray)).toList == X.toList) = false := by
              rw [Lib.toList_data, Lib.toList_data, cat_data]
              simp
            have hne' : ga ≠ gc := fun e => hne e.symm
            have hXs : X.size ≤ 300 := by
              have h1 := HXL.out x (List.mem_of_getElem? hx)
              have h2 : X.data.toList = x := by
                simp only [strV, Value.string.injEq] at hX
                rw [hX]
              rw [Lib.size_eq, h2]
              exact h1
            clear hX hx hSc
            go_wp2_with fail
            go_quiet (fail)
            go_wp2_with fail
            have hh8 := HS.out hp
            have g8 : ((wr.drewN nq).setCell ⟨ga, j, none⟩ (.string (X ++ ⟨#[120]⟩))).cell? ⟨ga, j, none⟩ = some (.string (X ++ ⟨#[120]⟩)) := cell_put ca
            have g9 : ((wr.drewN nq).setCell ⟨ga, j, none⟩ (.string (X ++ ⟨#[120]⟩))).cell? ⟨gc, j, none⟩ = some (.string X) := (cell_heap (heap_setCell_other _ _ _ _ (by exact hne))).trans cc
            have hgr8 : W7.grownBy ((wr.drewN nq).setCell ⟨ga, j, none⟩ (.string (X ++ ⟨#[120]⟩))) (some ga) := grownB_trans (grownB_drewN hgr nq) (grownB_setCell _ _ _ _)
            have hs8 : StrsFrom ((wr.drewN nq).setCell ⟨ga, j, none⟩ (.string (X ++ ⟨#[120]⟩))) ga (j + 1) ws' := StrsFrom.set (w := wr.drewN nq) hh8 _
            have HS8 := hide hs8
            generalize (wr.drewN nq).setCell ⟨ga, j, none⟩ (.string (X ++ ⟨#[120]⟩)) = W8 at g8 g9 hgr8 HS8
            clear hs8 hh8 ca fa cc
            go_quiet (fail)
            go_wp2
            go_roundw
            case rel => exact ⟨j + 1, by omega, by go_num, hide (fun _ => (HS8.out).kept rfl), grownB_drewN hgr8 _⟩
            case measure => simp [intOf]; omega
          · have hgrw : Below w.heap.size w wr := bw7.grown hgr bw7.size (fun i hi => by cases hi; exact hgaw)
            have y0' : wr.cell? ⟨gy, 0, none⟩ = some (.int .i64 1) := (cell_heap (hgr.block gy m2 (some_ne d2))).trans y0
            have y1' : wr.cell? ⟨gy, 1, none⟩ = some (.int .i64 2) := (cell_heap (hgr.block gy m2 (some_ne d2))).trans y1
            have bb' : wr.cell? ⟨gb, 0, none⟩ = some (.string B0) := (cell_heap (hgr.block gb m1 (some_ne d1))).trans bb
            have HX9 : Hid (0 < zs.length → ao4 = some ⟨gx, 0, none⟩ ∧ NumsFrom wr gx 0 zs) := fun h => ⟨(HX8.out h).1, (HX8.out h).2.kept (hgr.block gx m3 (some_ne (HX7.out h)))⟩
            have HZ9 : Hid (0 < zs.length → ao6 = some ⟨gz, 0, none⟩ ∧ gz ≠ gx ∧ gz < wr.heap.size ∧ NumsFrom wr gz 0 zs) := fun h => by
              obtain ⟨r1, r2, r3, r4, r5⟩ := HZ7.out h
              exact ⟨r1, r2, Nat.lt_of_lt_of_le r4 hgr.size, r5.kept (hgr.block gz r4 (some_ne r3))⟩
            have m1' := Nat.lt_of_lt_of_le m1 hgr.size
            have m2' := Nat.lt_of_lt_of_le m2 hgr.size
            clear HS hgr HA7 HC7 HX8 HZ7 y0 y1 bb m1 m2 m3 bw7 HX7
            rename World => W9
            go_wp2
            go_loopw [20] (fun jv wr => ∃ j : Nat, j ≤ zs.length ∧ jv = .int .i64 j ∧ Hid (0 < zs.length → NumsFrom wr gx j zs) ∧ W9.grownBy wr (some gx)) (fun jv _ => zs.length - (intOf jv).toNat)
            case atStart => exact ⟨0, by omega, rfl, hide (fun h => (HX9.out h).2), grownB_refl _ _⟩
            case round =>
              obtain ⟨j, hj, rfl, HS, hgr⟩ := hrel
              by_cases hlj : j < zs.length
              · have hp : 0 < zs.length := by omega
                obtain ⟨z, hz⟩ : ∃ z, zs[j]? = some z := ⟨_, List.getElem?_eq_getElem hlj⟩
                have hzb := HZB.out z (List.mem_of_getElem? hz)
                obtain ⟨rfl, _⟩ := HX9.out hp
                obtain ⟨rfl, hne, hgz, hNz⟩ := HZ9.out hp
                have ca := (HS.out hp).cell (Nat.le_refl j) hz
                have fa := (HS.out hp).frozen j
                have cc : wr.cell? ⟨gz, j, none⟩ = some (.int .i64 z) := (cell_heap (hgr.block gz hgz (some_ne hne))).trans (hNz.cell (Nat.zero_le j) hz)
                have i1 : (0 : Int) ≤ (j : Int) := by omega
                have i2 : (j : Int) < (zs.length : Int) := by omega
                have v1 : 1 ≤ z := hzb.2
                have v2 : z ≤ 1073741824 := hzb.1
                have z1 : (z + 1 == z) = false := by
                  rw [beq_eq_false_iff_ne]
                  omega
                clear hz hNz hzb
                go_wp2_with fail
                have g8 : (wr.setCell ⟨gx, j, none⟩ (.int .i64 (z + 1))).cell? ⟨gx, j, none⟩ = some (.int .i64 (z + 1)) := cell_put ca
                have g9 : (wr.setCell ⟨gx, j, none⟩ (.int .i64 (z + 1))).cell? ⟨gz, j, none⟩ = some (.int .i64 z) := (cell_heap (heap_setCell_other _ _ _ _ (by exact hne))).trans cc
                have hgr8 : W9.grownBy (wr.setCell ⟨gx, j, none⟩ (.int .i64 (z + 1))) (some gx) := grownB_trans hgr (grownB_setCell _ _ _ _)
                have HS8 := hide (NumsFrom.set (HS.out hp) (.int .i64 (z + 1)))
                generalize wr.setCell ⟨gx, j, none⟩ (.int .i64 (z + 1)) = W8 at g8 g9 hgr8 HS8
                clear ca fa cc
                go_quiet (fail)
                go_wp2
                go_roundw
                case rel => exact ⟨j + 1, by omega, by go_num, hide (fun _ => (HS8.out).kept rfl), grownB_drewN hgr8 _⟩
                case measure => simp [intOf]; omega
              · have hfin : Below w.heap.size w wr := hgrw.grown hgr hgrw.size (fun i hi => by cases hi; exact hgxw)
                have y0 : wr.cell? ⟨gy, 0, none⟩ = some (.int .i64 1) := (cell_heap (hgr.block gy m2' (some_ne d4))).trans y0'
                have y1 : wr.cell? ⟨gy, 1, none⟩ = some (.int .i64 2) := (cell_heap (hgr.block gy m2' (some_ne d4))).trans y1'
                have bb : wr.cell? ⟨gb, 0, none⟩ = some (.string B0) := (cell_heap (hgr.block gb m1' (some_ne d3))).trans bb'
                have z1 : (B0.toList != B0.toList) = false := by simp
                clear y0' y1' bb' HS HX9 HZ9
                go_wp2
                go_roundw
                case rel => exact ⟨k + 1, by omega, by go_num, hfin⟩
                case measure => simp [intOf]; omega
      · have hd : decide ((k : Int) < 1152921504606846976) = false := decide_eq_false hbig
        clear hbig
        go_wp2_with (go_at_call 14; refine (HAL.out _).mono ?_; rintro e w1 ⟨rfl, hb1⟩)
        go_ret
        exact ⟨rfl, hbx.trans (hb1.mono hbx.size)⟩
    · go_wp2_with (go_at_call 14; refine (HAL.out _).mono ?_; rintro e w1 ⟨rfl, hb1⟩)
      go_ret
      exact ⟨rfl, hbx.trans (hb1.mono hbx.size)⟩
end Go.Proofs.YtkiindkoiomieaaGreatDoor
end

section
/-
  The card of Own.
-/
namespace Go.Proofs.YtkiindkoiomieaaGreatDoor
open Go.ChangeShapes Go.WideShapes Go.ChangeAt Go.RowKit Go.Deep

set_option maxHeartbeats 1000000 in
set_option maxRecDepth 100000 in
theorem own_zero (ao : Option Addr) (cap : Nat) (w : World)
    (hal : ∀ W, Calls Tryz.prog 14 #[] W fun e w' => e = .returned (.bool true) ∧ Below W.heap.size W w') :
    Calls Tryz.prog 9 #[.slice ao 0 cap] w fun e w' => e = .returned (.bool true) ∧ Below w.heap.size w w' := by
  go_enter Tryz.func9, Tryz.ntmps9
  go_wp2
  refine wp_loop_rounds 1 ?_
  rw [rounds_succ]
  go_wp2_with (go_at_call 14; refine (hal _).mono ?_; rintro e w1 ⟨rfl, hb1⟩)
  go_ret
  exact ⟨rfl, hb1⟩

set_option maxHeartbeats 1000000 in
set_option maxRecDepth 100000 in
theorem own_lifted (hal : ∀ W, Calls Tryz.prog 14 #[] W fun e w' => e = .returned (.bool true) ∧ Below W.heap.size W w') (os : Os) (started : os.Started) (H : Type) (enc : TypeId × Value → H) :
    ReturnsInHanded {} Tryz.checked os 9 .any (fun w args => (Rows.ownSpec.pre enc Tryz.prog Tryz.f9 Rows.ownRow.domain false w args ∧ laidMetH Tryz.prog seatLaid w) ∧ sizedMet enc Tryz.prog Tryz.f9 (OpenSpec.ofChange Rows.ownSpec) false w args)
      (Rows.ownSpec.post enc Tryz.prog Tryz.f9 false true false false) := by
  refine returnsInHanded_of_change_and (C := Tryz.checked) (X := fun w _ => laidMetH Tryz.prog seatLaid w) (fun _ _ _ hh h => h.of_heap hh) Tryz.own started (by kernel_rfl) Tryz.func9
    (ChangeSpec.witness_shaped (enc := enc) (C := Tryz.checked) (os := os) (X := fun w _ => laidMetH Tryz.prog seatLaid w) false (World.laidAll Tryz.prog os seatLaid) #[.slice none 0 0] 8 (World.laidAll_os _ _ _)
      (World.shaped_of_ZipB (by kernel_rfl) (by kernel_rfl)) (by kernel_rfl) (by kernel_rfl) (by kernel_rfl)
      (by rw [MakeChecks.laidMetH_plain _ _ _ (by kernel_rfl)]; exact laidMet_laidAll _ (by kernel_rfl) (by kernel_rfl))) ?_
  intro W base args ds gs before hval0 hW hcnd _ _ _
  have hval : ∀ (j : Nat) t v, Tryz.f9.params[j]? = some t → args[j]? = some v → Value.okWide Tryz.prog W .any base t v := hval0
  have hW' := hW
  obtain ⟨p, q, hA0, hV, rfl, _, _⟩ := hW
  have hA : DataW.TrodAll enc Tryz.prog W 0 (fun _ => true) true Tryz.f9.params.toList args.toList ds p := hA0
  rw [Tryz.params9] at hA hval
  obtain ⟨v0, d0, rfl, rfl, h0⟩ := trodAll_one hA
  obtain ⟨rfl, rfl⟩ := trodVars_none hV
  have h0k := h0
  obtain ⟨fuel, hf⟩ := h0
  clear hA0 hval0 hcnd
  simp only [List.append_nil] at hW'
  have hlt : ∀ x ∈ p, x.block < W.heap.size := fun x hx => by simpa using hW'.lt x hx
  obtain ⟨a0, len, cap, rfl⟩ := okWide_slice Tryz.underlying22 (hval 0 22 v0 rfl rfl)
  have key : Calls Tryz.prog 9 #[.slice a0 len cap] W fun e w' => e = .returned (.bool true) ∧ Below W.heap.size W w' := by
    obtain ⟨hlm, h0len | ⟨b, off, D, rest, rfl, hb, rfl, hop⟩⟩ := open_ops hf hlt
    · subst h0len
      exact own_zero a0 cap W hal
    · refine own_any b off len cap W (by unfold maxLen at hlm; omega) hb (fun k hk => ?_) hal
      obtain ⟨na, nb, S, T, la, ll, lc, _, _, ho, _⟩ := hop k hk
      exact ⟨na, nb, S, T, la, ll, lc, ho.cA, ho.cB, ho.cS, ho.cT, ho.cL, by have := ho.sS; unfold maxLen at this; omega, by have := ho.sT; unfold maxLen at this; omega⟩
  refine key.mono fun e W' ⟨he, hbel⟩ => ?_
  subst he
  exact ⟨_, rfl, ⟨_, _, _, [], _, [], hW', trodAll_mk1 (shut_bool Tryz.underlying4 true), trodAll_mk1 (Below.trod Tryz.laidOut (by kernel_rfl) (of_decide_eq_true (by kernel_rfl)) h0k hbel hlt), rfl, hbel.frame _, fun h => by cases h⟩⟩

theorem own_row : Rows.OwnSaid :=
  OpenClaim.holds_of_wide 9 Tryz.f9 rfl rfl rfl rfl rfl rfl rfl ⟨rfl, rfl, rfl, rfl, rfl⟩ rfl rfl rfl rfl rfl (by kernel_rfl) Tryz.func9 (by kernel_rfl)
    (of_decide_eq_true (by kernel_rfl)) (by unfold Func.isWrapper; first | (rw [if_pos (by decide +kernel)]; kernel_rfl) | (rw [if_neg (by decide +kernel)]; exact ⟨rfl, rfl⟩))
    (fun os started H enc _ => own_lifted alive_any os started H enc)

theorem own_card : Rows.OwnCardSaid :=
  Claim7.holds_tied_plain_at .later [] [.data, .pinned] true _ false
    own_row (fun _ h => by cases h) (by kernel_rfl) (fun _ h => by cases h) own_row_tie rfl ⟨rfl, rfl⟩ (by kernel_rfl) rfl
    (fun f fn hf hfn => by
      obtain rfl : f = 9 := Option.some.inj ((show Tryz.prog.funcNamed "twine/twinelaw.Own" = some 9 by kernel_rfl).symm.trans hf) |>.symm
      obtain rfl : fn = Tryz.f9 := (Option.some.inj (Tryz.func9.symm.trans hfn)).symm
      exact ⟨by kernel_rfl, fun j t ht => by
        rw [Tryz.params9] at ht
        have hm : t ∈ [22] := by simpa using Array.mem_of_getElem? ht
        have hall : ([22].all fun u => !Tryz.prog.wantsStandIn u) = true := by kernel_rfl
        exact (show Tryz.prog.wantsStandIn t = false by simpa using List.all_eq_true.1 hall t hm)⟩)
    (by kernel_rfl)
end Go.Proofs.YtkiindkoiomieaaGreatDoor
end

