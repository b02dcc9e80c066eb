/-
  P4: the walk of ranksOf: a map by pairs.
-/
import Derived.Test.YtkiindkoiomieaaRankMath
import Derived.Maps.Own
import Derived.Maps.OwnOps
import Derived.Maps.OwnSet
import Derived.Maps.Views
import Derived.DeepKeys4
namespace Go.Proofs.Ytkiindkoiomieaa
open Go.RowKit Go.Lib Go.Sort Go.Maps

/-- A pair as a map's key. -/
def kp (x : Int × Int) : Lit := .string (keyBytes [.int .i64 x.1, .int .i64 x.2])

theorem Try.laidOut : laidOutB Try.prog = true := by kernel_rfl
theorem Try.rowPair : (78 : TypeId) < Try.prog.types.size := of_decide_eq_true (by kernel_rfl)
theorem Try.cellsPair : Try.prog.cellsOf 78 = 2 := by kernel_rfl
theorem Try.widePair : (match Try.prog.underlying 78 with | some (.array _ _) | some (.struct _) => true | _ => false) = true := by rw [Try.underlying78]
set_option maxRecDepth 100000 in
theorem law : Keyed Try.prog 78 := Keyed.of_law (deep_law_laid Try.laidOut (m := 2) (by omega) Try.rowPair (by kernel_rfl) Try.widePair)
theorem Try.keyPair : Try.prog.keyType 78 = true := by kernel_rfl

theorem pos_succ {n k : Nat} (h : k < n) : ∃ m, n = m + 1 := ⟨n - 1, by omega⟩

set_option maxRecDepth 100000 in
theorem key_mk (x : Int × Int) (h1 : (Lit.int .i64 x.1).wf = true) (h2 : (Lit.int .i64 x.2).wf = true) : keyOf Try.prog 78 (.agg #[.int .i64 x.1, .int .i64 x.2]) = some (kp x) := by
  have hf : (Value.agg #[.int .i64 x.1, .int .i64 x.2]).formed Try.prog 78 = true := by simp [Value.formed, Try.underlying78, Try.cellsPair]
  have hl : Try.prog.keyLits (Try.prog.types.size + 1) 78 [.int .i64 x.1, .int .i64 x.2] = some [.int .i64 x.1, .int .i64 x.2] := by
    obtain ⟨m, hm⟩ : ∃ m, Try.prog.types.size = m + 1 := pos_succ Try.rowPair
    rw [hm]
    simp [Program.keyLits, Try.underlying78, Try.cellsPair, Try.cells3, Try.underlying3, h1, h2, List.range, List.range.loop]
  unfold keyOf
  rw [Try.underlying78]
  simp only [Try.keyPair, hf, Bool.and_self, if_true]
  show Option.map _ (Try.prog.keyLits (Try.prog.types.size + 1) 78 [.int .i64 x.1, .int .i64 x.2]) = _
  rw [hl]
  rfl

theorem make_map (n : Int) (W : World) : (Instr.makeMap 112 (some (.int .i64 n))).run Try.prog W = .ok (.map (some W.heap.size)) (W.alloc (.map #[] 0)) := by
  simp [Instr.makeMap, run_underlying Try.underlying112, go_sem]

/-- What the map tells: of each of the first k its place. -/
def Tells (c : List (Int × Int)) (k : Nat) (D : DataW Unit) : Prop := ∀ j x, j < k → c[j]? = some x → D.atKey (kp x) (.lit (.int .i64 0)) = .lit (.int .i64 (j : Int))

/-- No number is too great for its kind. -/
def Wf (c : List (Int × Int)) : Prop := ∀ x ∈ c, (Lit.int .i64 x.1).wf = true ∧ (Lit.int .i64 x.2).wf = true

theorem Tells.next {c : List (Int × Int)} {k : Nat} {D : DataW Unit} {x : Int × Int} (h : Tells c k D) (hD : IsMap D) (hc : c.Pairwise fun a b => ltP a b = true) (hw : Wf c) (hx : c[k]? = some x) : Tells c (k + 1) (D.put (kp x) (.lit (.int .i64 (k : Int)))) := by
  intro j y hj hy
  have hxm := List.mem_of_getElem? hx
  have hym := List.mem_of_getElem? hy
  have kx := key_mk x (hw x hxm).1 (hw x hxm).2
  have ky := key_mk y (hw y hym).1 (hw y hym).2
  by_cases hjk : j = k
  · subst hjk
    rw [hx] at hy
    cases hy
    exact atKey_put_same hD (law.key kx) _ _
  · rw [atKey_put_other]
    · exact h j y (by omega) hy
    · intro e
      rw [e] at ky
      have := law.inj ky kx
      simp only [Value.agg.injEq, Array.mk.injEq, List.cons.injEq, Value.int.injEq, true_and, and_true] at this
      obtain ⟨hk1, ek⟩ := List.getElem?_eq_some_iff.1 hx
      obtain ⟨hj1, ej⟩ := List.getElem?_eq_some_iff.1 hy
      have hlt := List.pairwise_iff_getElem.1 hc j k hj1 hk1 (by omega)
      rw [ek, ej, ltP_iff] at hlt
      omega

theorem flat_one (d : Array (Int × Int)) : ∀ u ∈ (flatK encP 2 d).toList, u.oneCell' = true := by
  intro u hu
  obtain ⟨t, ht, rfl⟩ := List.mem_iff_getElem.1 hu
  have ht' : t < (flatK encP 2 d).size := by simpa using ht
  have e : (flatK encP 2 d).toList[t] = (flatK encP 2 d)[t]! := by
    rw [getElem!_pos _ t ht']
    simp
  rw [e, get_flatK _ _ _ _ (by simpa using ht')]
  rcases Nat.mod_two_eq_zero_or_one t with h | h <;> rw [h] <;> rfl

theorem clonePairs_any (g cap : Nat) (d : Array (Int × Int)) (w : World) (hsz : d.size ≤ 500) (hL : Lies w g d) :
    Calls Try.prog 79 #[.slice (some ⟨g, 0, none⟩) d.size cap] w fun e w' => ∃ g' cap', e = .returned (.slice (some ⟨g', 0, none⟩) d.size cap') ∧ d.size ≤ cap' ∧ cap' ≤ maxLen ∧ w.heap.size ≤ g' ∧ Lies w' g' d ∧ Below w.heap.size w w' := by
  obtain ⟨i0, hi, hz0, hz1, hz2⟩ := info_parts Try.infoPair
  have hH := hL.holds
  have hcon := AnyE.slices_Clone Try.clonePair i0 _ 2 16 hi hz0 hz1 hz2 rfl (by decide) Try.sizeOf78 g 0 d.size cap (flatK encP 2 d).toList w (by simp) (by unfold maxLen; omega) (by omega) (fun j u hj => ?_) (flat_one d)
  · change Calls Try.prog 79 _ _ _ at hcon
    refine hcon.mono ?_
    rintro e w' ⟨v', he, hown, hnil, hb⟩
    rcases hown.2 with ⟨h1, _⟩ | ⟨g', cap', cur, rfl, h3, h4, h5, h6, h7, h8⟩
    · exact absurd h1 hnil
    · refine ⟨g', cap', he, h5, h6, h3, ⟨cur, h4, fun j hj => ?_⟩, hb⟩
      have hk : ∀ t, t < d.size * 2 → cur[t]? = some ((encP d[t / 2]!)[t % 2]!) := fun t ht => by
        have : cur.toList[t]? = (flatK encP 2 d).toList[t]? := by
          rw [← h8, List.getElem?_take, if_pos ht]
        rw [Array.getElem?_toList, Array.getElem?_toList] at this
        rw [this, Array.getElem?_eq_getElem (by simpa using ht), ← get_flatK encP 2 d t ht, getElem!_pos _ t (by simpa using ht)]
      have a := hk (j * 2) (by omega)
      have b := hk (j * 2 + 1) (by omega)
      rw [show j * 2 / 2 = j by omega, show j * 2 % 2 = 0 by omega] at a
      rw [show (j * 2 + 1) / 2 = j by omega, show (j * 2 + 1) % 2 = 1 by omega] at b
      exact ⟨a, b⟩
  · have hj' : j < (flatK encP 2 d).size := by
      have := (List.getElem?_eq_some_iff.1 hj).1
      simpa using this
    have := (hH j hj').1
    rw [this, getElem!_pos _ j hj']
    rw [Array.getElem?_toList, Array.getElem?_eq_getElem hj'] at hj
    exact hj
end Go.Proofs.Ytkiindkoiomieaa
