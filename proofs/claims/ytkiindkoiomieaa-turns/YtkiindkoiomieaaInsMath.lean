/-
  Plain mathematics of P4: places that are laid into a sorted list one by one. Nothing of the program.
-/
import Derived.Test.YtkiindkoiomieaaTurnMath
namespace Go.Proofs.Ytkiindkoiomieaa.Tur
open Duv

/-- One place is read ahead of another. -/
def LtP (p q : List UInt8 × Nat) : Prop := Lt (rd p.1 p.2) (rd q.1 q.2)

def Sp (o : List (List UInt8 × Nat)) : Prop := o.Pairwise fun a b => ¬ LtP b a

/-- r laid into the first j of o; d: it is in. -/
def Ins (r : List UInt8 × Nat) (o : List (List UInt8 × Nat)) (j : Nat) (d : Bool) (n : List (List UInt8 × Nat)) : Prop :=
  (d = false ∧ n = o.take j ∧ ∀ x ∈ o.take j, ¬ LtP r x) ∨
  (d = true ∧ ∃ a y b, o.take j = a ++ y :: b ∧ n = a ++ r :: y :: b ∧ (∀ x ∈ a, ¬ LtP r x) ∧ LtP r y)

theorem Ins.start (r : List UInt8 × Nat) (o : List (List UInt8 × Nat)) : Ins r o 0 false [] := .inl ⟨rfl, rfl, by simp⟩

theorem take_next {α : Type} {o : List α} {j : Nat} {x : α} (h : o[j]? = some x) : o.take (j + 1) = o.take j ++ [x] := by
  rw [List.take_add_one, h]
  rfl

theorem Ins.here {r : List UInt8 × Nat} {o n : List (List UInt8 × Nat)} {j : Nat} {x : List UInt8 × Nat} (h : Ins r o j false n) (hx : o[j]? = some x) (hl : LtP r x) : Ins r o (j + 1) true (n ++ [r] ++ [x]) := by
  rcases h with ⟨_, h1, h2⟩ | ⟨h1, _⟩
  · subst h1
    exact .inr ⟨rfl, o.take j, x, [], take_next hx, by simp, h2, hl⟩
  · cases h1

theorem Ins.past {r : List UInt8 × Nat} {o n : List (List UInt8 × Nat)} {j : Nat} {x : List UInt8 × Nat} (h : Ins r o j false n) (hx : o[j]? = some x) (hl : ¬ LtP r x) : Ins r o (j + 1) false (n ++ [x]) := by
  rcases h with ⟨_, h1, h2⟩ | ⟨h1, _⟩
  · subst h1
    refine .inl ⟨rfl, (take_next hx).symm, fun y hy => ?_⟩
    rw [take_next hx] at hy
    rcases List.mem_append.1 hy with hy | hy
    · exact h2 y hy
    · simp at hy
      subst hy
      exact hl
  · cases h1

theorem Ins.rest {r : List UInt8 × Nat} {o n : List (List UInt8 × Nat)} {j : Nat} {x : List UInt8 × Nat} (h : Ins r o j true n) (hx : o[j]? = some x) : Ins r o (j + 1) true (n ++ [x]) := by
  rcases h with ⟨h1, _⟩ | ⟨_, a, y, b, h1, h2, h3, h4⟩
  · cases h1
  · exact .inr ⟨rfl, a, y, b ++ [x], by rw [take_next hx, h1]; simp, by rw [h2]; simp, h3, h4⟩

theorem Ins.length {r : List UInt8 × Nat} {o n : List (List UInt8 × Nat)} {j : Nat} {d : Bool} (h : Ins r o j d n) (hj : j ≤ o.length) : n.length = j + d.toNat := by
  rcases h with ⟨rfl, rfl, _⟩ | ⟨rfl, a, y, b, h1, rfl, _⟩
  · simp; omega
  · have := congrArg List.length h1
    simp at this
    simp
    omega

/-- What has come of it. -/
theorem Ins.done {r : List UInt8 × Nat} {o n : List (List UInt8 × Nat)} {d : Bool} (h : Ins r o o.length d n) (hs : Sp o) :
    (n ++ (if d = true then [] else [r])).Perm (o ++ [r]) ∧ Sp (n ++ (if d = true then [] else [r])) := by
  rcases h with ⟨rfl, h1, h2⟩ | ⟨rfl, a, y, b, h1, rfl, h3, h4⟩
  · rw [List.take_length] at h1 h2
    subst h1
    refine ⟨by simp, ?_⟩
    simp only [Bool.false_eq_true, if_false, Sp, List.pairwise_append, List.pairwise_cons, List.not_mem_nil, false_imp_iff, implies_true, List.Pairwise.nil, and_self, true_and]
    refine ⟨hs, fun x hx z hz => ?_⟩
    simp at hz
    subst hz
    exact h2 x hx
  · rw [List.take_length] at h1
    subst h1
    simp only [if_true, List.append_nil]
    constructor
    · rw [List.append_assoc]
      refine List.Perm.append_left a ?_
      have : (y :: b ++ [r]).Perm ([r] ++ (y :: b)) := List.perm_append_comm
      exact this.symm
    · unfold Sp at hs ⊢
      rw [List.pairwise_append] at hs ⊢
      obtain ⟨s1, s2, s3⟩ := hs
      refine ⟨s1, ?_, fun x hx z hz => ?_⟩
      · rw [List.pairwise_cons]
        refine ⟨fun z hz hlt => ?_, s2⟩
        rcases List.mem_cons.1 hz with rfl | hz'
        · exact Lt.asymm h4 hlt
        · exact (List.pairwise_cons.1 s2).1 z hz' (Lt.trans hlt h4)
      · rcases List.mem_cons.1 hz with rfl | hz'
        · exact h3 x hx
        · exact s3 x hx z hz'

theorem turned_of {ws : List (List UInt8)} {o : List (List UInt8 × Nat)} (hp : o.Perm (places ws)) (hs : Sp o) : Turned ws (o.map fun p => ah p.1 p.2) := by
  refine ⟨o.map row, hp.map _, ?_, ?_⟩
  · unfold Srt
    rw [List.pairwise_map]
    exact hs
  · rw [List.map_map]
    rfl

theorem places_next {ws : List (List UInt8)} {i : Nat} {w : List UInt8} (h : ws[i]? = some w) : places (ws.take (i + 1)) = places (ws.take i) ++ (List.range w.length).map fun k => (w, k) := by
  rw [take_next h]
  simp [places]
end Go.Proofs.Ytkiindkoiomieaa.Tur
