/-
  P6: the walk of Gammas.
-/
import Derived.Test.YtkiindkoiomieaaUnRef
namespace Go.Proofs.Ytkiindkoiomieaa
open Go.RowKit

/-- A slice of numbers, as it lies. -/
structure Ints (w : World) (ao : Option Addr) (len : Nat) (zs : List Int) (lb lo : Nat) : Prop where
  hz : zs.length = len
  hao : 0 < len → ao = some ⟨lb, lo, none⟩ ∧ lb < w.heap.size
  hc : ∀ j z, zs[j]? = some z → w.cell? ⟨lb, lo + j, none⟩ = some (.int .i64 z)

theorem Ints.lt {w : World} {ao : Option Addr} {len : Nat} {zs : List Int} {lb lo : Nat} (h : Ints w ao len zs lb lo) {j : Nat} {z : Int} (hj : zs[j]? = some z) : lb < w.heap.size := block_lt_of_cell (h.hc j z hj)

theorem Ints.below {w w' : World} {ao : Option Addr} {len : Nat} {zs : List Int} {lb lo : Nat} (h : Ints w ao len zs lb lo) (hb : Below w.heap.size w w') : Ints w' ao len zs lb lo :=
  ⟨h.hz, fun h0 => ⟨(h.hao h0).1, Nat.lt_of_lt_of_le (h.hao h0).2 hb.size⟩, fun j z hj => (hb.cell (p := ⟨lb, lo + j, none⟩) (h.lt hj)).trans (h.hc j z hj)⟩

theorem row_lt {w : World} {g : Nat} {o : Obj} (h : w.heap[g]? = some o) : g < w.heap.size := (Array.getElem?_eq_some_iff.1 h).1

theorem ints_own {w : World} {base n : Nat} {v : Value} {zs : List Int} (h : w.ownsRow base 3 1 v n (zs.map (Value.int .i64))) : ∃ ao cap g, v = .slice ao n cap ∧ Ints w ao n zs g 0 := by
  have hl : zs.length = n := by have := h.1; simpa using this
  rcases h.2 with ⟨h1, h2⟩ | ⟨g, cap, cur, rfl, h3, h4, h5, h6, h7, h8⟩
  · subst h2
    have hn : zs = [] := List.eq_nil_of_length_eq_zero hl
    subst hn
    exact ⟨none, 0, 0, h1, hl, fun h => by omega, fun j z hj => by simp at hj⟩
  · refine ⟨_, cap, g, rfl, hl, fun _ => ⟨rfl, row_lt h4⟩, fun j z hj => ?_⟩
    have hlt := (List.getElem?_eq_some_iff.1 hj).1
    have := h.cellAt j (by omega)
    rw [Nat.zero_add, this, List.getElem?_map, hj]
    rfl

theorem unL_few : ∀ (f : Nat) (l : List UInt8) (acc out : List Int), acc.length ≤ 100 → unL f l acc = some out → out.length ≤ 100
  | 0, _, _, _, _, h => by simp [unL] at h
  | f + 1, l, acc, out, ha, h => by
    rw [unL] at h
    by_cases hl : l = []
    · rw [if_pos hl] at h
      simp at h
      subst h
      exact ha
    · rw [if_neg hl] at h
      cases hr : readOne l with
      | none => rw [hr] at h; cases h
      | some x =>
        obtain ⟨n, r⟩ := x
        rw [hr] at h
        by_cases h100 : acc.length = 100
        · have h : (if acc.length = 100 then none else unL f r (acc ++ [(n : Int)])) = some out := h
          rw [if_pos h100] at h
          cases h
        · have h : (if acc.length = 100 then none else unL f r (acc ++ [(n : Int)])) = some out := h
          rw [if_neg h100] at h
          exact unL_few f r _ out (by simp; omega) h

theorem uV_few (T : ByteArray) : (uV T).length ≤ 100 := by
  unfold uV
  by_cases h : 6100 < T.size
  · rw [if_pos h]
    simp
  · rw [if_neg h]
    cases hr : uR T with
    | none => simp
    | some l => exact unL_few _ _ _ l (by simp) hr

theorem drewN_below (w : World) (n : Nat) : Below w.heap.size w (w.drewN n) := below_drewN (Below.refl _ _) n

set_option maxHeartbeats 2000000 in
set_option maxRecDepth 100000 in
theorem gammas_any (b off len cap : Nat) (w : World) (hlen : len ≤ 9223372036854775807) (hb : b < w.heap.size)
    (hc : ∀ k, k < len → ∃ (na nb : Int) (S T : ByteArray) (la : Option Addr) (ll lc : Nat) (zs : List Int) (lb lo : Nat), w.cell? ⟨b, off + k * 5, none⟩ = some (.int .i64 na) ∧ w.cell? ⟨b, off + k * 5 + 1, none⟩ = some (.int .i64 nb) ∧
      w.cell? ⟨b, off + k * 5 + 2, none⟩ = some (.string S) ∧ w.cell? ⟨b, off + k * 5 + 3, none⟩ = some (.string T) ∧ w.cell? ⟨b, off + k * 5 + 4, none⟩ = some (.slice la ll lc) ∧ T.size ≤ 9223372036854775807 ∧ ll * 8 ≤ 140737488351232 ∧ Ints w la ll zs lb lo) :
    Calls Try.prog 6 #[.slice (some ⟨b, off, none⟩) len cap] w fun e w' => e = .returned (.bool true) ∧ Below w.heap.size w w' := by
  have HC := hide hc
  clear hc
  go_enter Try.func6, Try.ntmps6
  go_wp2
  go_loopw [3] (fun i wr => ∃ k : Nat, k ≤ len ∧ i = .int .i64 k ∧ Below w.heap.size w wr) (fun i _ => len - (intOf i).toNat)
  case atStart => exact ⟨0, Nat.zero_le _, rfl, Below.refl _ _⟩
  case round =>
    obtain ⟨k, hk, rfl, hbx⟩ := hrel
    by_cases hlt : k < len
    · by_cases hbig : (k : Int) < 1152921504606846976
      · have hd : decide ((k : Int) < 1152921504606846976) = true := decide_eq_true hbig
        clear hbig
        obtain ⟨na, nb, S, T, la, ll, lc, zs, lb, lo, c0, c1, c2, c3, c4, hT, hL, hI⟩ := HC.out k hlt
        have kc : ∀ o, wr.cell? ⟨b, o, none⟩ = w.cell? ⟨b, o, none⟩ := fun o => hbx.cell (p := ⟨b, o, none⟩) hb
        rw [← kc] at c0 c1 c2 c3 c4
        have hI1 := hide (hI.below hbx)
        clear kc hI
        obtain ⟨X, hX⟩ : ∃ X : ByteArray, X = ⟨(gS zs).toArray⟩ := ⟨_, rfl⟩
        obtain ⟨E, hE⟩ : ∃ E, E = gE zs := ⟨_, rfl⟩
        obtain ⟨F, hF⟩ : ∃ F, F = uE T := ⟨_, rfl⟩
        have hEE : (E != E) = false := by simp
        have hFF : (F != F) = false := by simp
        have HX := hide (And.intro hX (And.intro hE hF))
        clear hX hE hF
        go_wp2_with fail
        obtain ⟨W0, hW0⟩ : ∃ W0, W0 = wr.alloc (.cells #[.int .i64 na, .int .i64 nb, .string S, .string T, .slice la ll lc] 26) := ⟨_, rfl⟩
        rw [← hW0]
        have b0 : Below wr.heap.size wr W0 := by rw [hW0]; exact (Below.refl _ _).alloc (Nat.le_refl _) _
        have n0 : wr.heap.size < W0.heap.size := by rw [hW0]; simp
        have f4 : W0.cell? ⟨wr.heap.size, 4, none⟩ = some (.slice la ll lc) := by rw [hW0]; exact World.cell?_alloc_new wr _ 26 4
        have f3 : W0.cell? ⟨wr.heap.size, 3, none⟩ = some (.string T) := by rw [hW0]; exact World.cell?_alloc_new wr _ 26 3
        have i0 := hI1.out.below b0
        clear hW0 c0 c1 c2 c3 c4 hI1
        refine (copied_any la ll lc zs lb lo W0 i0.hz hL i0.hao i0.hc).mono ?_
        rintro e W1 ⟨v, rfl, own1, b1⟩
        obtain ⟨ao, cap1, g, rfl, v1⟩ := ints_own own1
        have e4 : W1.cell? ⟨wr.heap.size, 4, none⟩ = some (.slice la ll lc) := (b1.cell (p := ⟨wr.heap.size, 4, none⟩) n0).trans f4
        have e3 : W1.cell? ⟨wr.heap.size, 3, none⟩ = some (.string T) := (b1.cell (p := ⟨wr.heap.size, 3, none⟩) n0).trans f3
        have i1 := i0.below b1
        have n1 : wr.heap.size < W1.heap.size := Nat.lt_of_lt_of_le n0 b1.size
        have I1 := hide (And.intro i1 v1)
        clear own1 f4 f3 i0 i1 v1
        go_wp2_with fail
        refine (gamma_any ao ll cap1 zs g 0 W1 I1.out.2.hz (by omega) I1.out.2.hao I1.out.2.hc).mono ?_
        rw [← HX.out.1, ← HX.out.2.1]
        rintro e W2 ⟨rfl, b2⟩
        have f4 : W2.cell? ⟨wr.heap.size, 4, none⟩ = some (.slice la ll lc) := (b2.cell (p := ⟨wr.heap.size, 4, none⟩) n1).trans e4
        have f3 : W2.cell? ⟨wr.heap.size, 3, none⟩ = some (.string T) := (b2.cell (p := ⟨wr.heap.size, 3, none⟩) n1).trans e3
        have I2 := hide (And.intro (I1.out.1.below b2) (I1.out.2.below b2))
        have n2 : wr.heap.size < W2.heap.size := Nat.lt_of_lt_of_le n1 b2.size
        clear e4 e3 I1
        go_wp2_with fail
        refine (refGamma_any la ll lc zs lb lo W2 I2.out.1.hz (by omega) I2.out.1.hao I2.out.1.hc).mono ?_
        rw [← HX.out.1, ← HX.out.2.1]
        rintro e W2' ⟨rfl, hw2⟩
        subst hw2
        go_wp2_with fail
        refine (same_any ao la ll cap1 lc zs g 0 lb lo W2' I2.out.1.hz (by omega) (fun h => ⟨(I2.out.2.hao h).1, (I2.out.1.hao h).1⟩) (fun j z hj => ⟨I2.out.2.hc j z hj, I2.out.1.hc j z hj⟩)).mono ?_
        rintro e W2n ⟨rfl, nq, rfl⟩
        clear I2
        go_wp2_with fail
        refine (ungamma_any T (W2'.drewN nq) hT).mono ?_
        rw [← HX.out.2.2]
        rintro e W3 ⟨v3, rfl, own3, b3⟩
        obtain ⟨ao3, cap3, g3, rfl, v3i⟩ := ints_own own3
        have e3 : W3.cell? ⟨wr.heap.size, 3, none⟩ = some (.string T) := (b3.cell (p := ⟨wr.heap.size, 3, none⟩) n2).trans f3
        have V3 := hide v3i
        clear own3 v3i f3 f4
        go_wp2_with fail
        refine (refUngamma_any T W3 hT).mono ?_
        rw [← HX.out.2.2]
        rintro e W4 ⟨v4, rfl, own4, b4⟩
        obtain ⟨ao4, cap4, g4, rfl, v4i⟩ := ints_own own4
        have V34 := hide (And.intro (V3.out.below b4) v4i)
        clear own4 v4i e3 V3
        obtain ⟨m, hm⟩ : ∃ m, m = (uV T).length := ⟨_, rfl⟩
        rw [← hm] at V34
        rw [← hm]
        have hml : m ≤ 9223372036854775807 := by
          rw [hm]
          exact Nat.le_trans (uV_few T) (by omega)
        clear hm
        go_wp2_with fail
        refine (same_any ao3 ao4 m cap3 cap4 (uV T) g3 0 g4 0 W4 V34.out.1.hz hml (fun h => ⟨(V34.out.1.hao h).1, (V34.out.2.hao h).1⟩) (fun j z hj => ⟨V34.out.1.hc j z hj, V34.out.2.hc j z hj⟩)).mono ?_
        rintro e W5 ⟨rfl, nq5, rfl⟩
        have hfin : Below w.heap.size w (W4.drewN nq5) := by
          have s0 : w.heap.size ≤ wr.heap.size := hbx.size
          refine below_drewN ?_ nq5
          refine ((((hbx.trans (b0.mono s0)).trans (b1.mono (by omega))).trans (b2.mono (by omega))).trans ?_)
          have b3' : Below w.heap.size W2' W3 := (below_drewN (Below.refl _ _) nq).trans (b3.mono (by show w.heap.size ≤ W2'.heap.size; omega))
          exact b3'.trans (b4.mono (by have := b3'.size; omega))
        clear V34 b0 b1 b2 b3 b4 n0 n1 n2
        go_wp2_with go_in
        go_roundw
        case rel => exact ⟨k + 1, by omega, by go_num, hfin⟩
        case measure => simp [intOf]; omega
      · have hd : decide ((k : Int) < 1152921504606846976) = false := decide_eq_false hbig
        clear hbig
        go_wp2
        go_ret
        exact ⟨rfl, hbx⟩
    · go_wp2
      go_ret
      exact ⟨rfl, hbx⟩

set_option maxHeartbeats 400000 in
theorem gammas_zero (ao : Option Addr) (cap : Nat) (w : World) :
    Calls Try.prog 6 #[.slice ao 0 cap] w fun e w' => e = .returned (.bool true) ∧ Below w.heap.size w w' := by
  go_enter Try.func6, Try.ntmps6
  go_wp2
  refine wp_loop_rounds 1 ?_
  rw [rounds_succ]
  go_wp2
  go_ret
  exact ⟨rfl, Below.refl _ _⟩
end Go.Proofs.Ytkiindkoiomieaa
