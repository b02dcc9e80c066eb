/-
  Plain mathematics of P4: ranks of readings, by doubling. Nothing of the program.
-/
import Derived.Test.YtkiindkoiomieaaBackMath
namespace Go.Proofs.Ytkiindkoiomieaa.Tur
open Duv

/-- The place behind each place, going round in its word. -/
def nxt : List (List UInt8) → Nat → List Nat
  | [], _ => []
  | w :: ws, st => ((List.range w.length).map fun i => st + (i + 1) % w.length) ++ nxt ws (st + w.length)

theorem nxt_length : ∀ (ws : List (List UInt8)) (st : Nat), (nxt ws st).length = ws.flatten.length
  | [], _ => rfl
  | w :: ws, st => by rw [nxt, List.length_append, nxt_length ws, List.flatten_cons, List.length_append]; simp

theorem nxt_snoc : ∀ (us : List (List UInt8)) (u : List UInt8) (st : Nat), nxt (us ++ [u]) st = nxt us st ++ ((List.range u.length).map fun i => st + us.flatten.length + (i + 1) % u.length)
  | [], u, st => by simp [nxt]
  | w :: us, u, st => by
    rw [List.cons_append, nxt, nxt_snoc us u, nxt, List.append_assoc, List.flatten_cons, List.length_append]
    congr 2
    apply List.map_congr_left
    intro i _
    omega

/-- A place x of the text: place i of the a-th word. -/
structure Loc (ws : List (List UInt8)) (x a i : Nat) (w : List UInt8) : Prop where
  word : ws[a]? = some w
  lt : i < w.length
  eq : x = (ws.take a).flatten.length + i

theorem loc_ex : ∀ (ws : List (List UInt8)) (x : Nat), x < ws.flatten.length → ∃ a i w, Loc ws x a i w
  | [], x, h => by simp at h
  | w :: ws, x, h => by
    by_cases hx : x < w.length
    · exact ⟨0, x, w, rfl, hx, by simp⟩
    · rw [List.flatten_cons, List.length_append] at h
      obtain ⟨a, i, v, h1, h2, h3⟩ := loc_ex ws (x - w.length) (by omega)
      refine ⟨a + 1, i, v, by simpa using h1, h2, ?_⟩
      rw [List.take_succ_cons, List.flatten_cons, List.length_append]
      omega

theorem Loc.small {ws : List (List UInt8)} {x a i : Nat} {w : List UInt8} (h : Loc ws x a i w) : x < ws.flatten.length := by
  have h1 : (ws.take a ++ ws.drop a).flatten.length = ws.flatten.length := by rw [List.take_append_drop]
  have h2 : ws.drop a = w :: ws.drop (a + 1) := by
    obtain ⟨hl, e⟩ := List.getElem?_eq_some_iff.1 h.word
    rw [List.drop_eq_getElem_cons hl, e]
  rw [h2, List.flatten_append, List.length_append, List.flatten_cons, List.length_append] at h1
  have := h.eq
  have := h.lt
  omega

theorem Loc.letter : ∀ {ws : List (List UInt8)} {x a i : Nat} {w : List UInt8}, Loc ws x a i w → ws.flatten[x]? = w[i]? := by
  intro ws
  induction ws with
  | nil => intro x a i w h; have := h.word; simp at this
  | cons v ws ih =>
    intro x a i w h
    obtain ⟨h1, h2, h3⟩ := h
    cases a with
    | zero =>
      simp at h1 h3
      subst h1
      subst h3
      rw [List.flatten_cons, List.getElem?_append_left h2]
    | succ a =>
      rw [List.take_succ_cons, List.flatten_cons, List.length_append] at h3
      rw [List.flatten_cons, List.getElem?_append_right (by omega)]
      exact ih ⟨by simpa using h1, h2, by omega⟩

theorem Loc.nxt : ∀ {ws : List (List UInt8)} {x a i : Nat} {w : List UInt8} (st : Nat), Loc ws x a i w → (nxt ws st)[x]? = some (st + ((ws.take a).flatten.length + (i + 1) % w.length)) := by
  intro ws
  induction ws with
  | nil => intro x a i w st h; have := h.word; simp at this
  | cons v ws ih =>
    intro x a i w st h
    obtain ⟨h1, h2, h3⟩ := h
    cases a with
    | zero =>
      simp at h1 h3
      subst h1
      subst h3
      rw [Tur.nxt, List.getElem?_append_left (by simpa using h2)]
      simp [h2]
    | succ a =>
      rw [List.take_succ_cons, List.flatten_cons, List.length_append] at h3
      rw [Tur.nxt, List.getElem?_append_right (by simp; omega), List.length_map, List.length_range]
      rw [ih (st + v.length) (x := x - v.length) (a := a) (i := i) (w := w) ⟨by simpa using h1, h2, by omega⟩]
      rw [List.take_succ_cons, List.flatten_cons, List.length_append]
      congr 1
      omega

/-- The same as a function. -/
def nx (ws : List (List UInt8)) (x : Nat) : Nat := (nxt ws 0)[x]?.getD 0

theorem Loc.step {ws : List (List UInt8)} {x a i : Nat} {w : List UInt8} (h : Loc ws x a i w) : Loc ws (nx ws x) a ((i + 1) % w.length) w := by
  refine ⟨h.word, Nat.mod_lt _ (by have := h.lt; omega), ?_⟩
  unfold nx
  rw [h.nxt 0, Option.getD_some, Nat.zero_add]

theorem Loc.steps {ws : List (List UInt8)} {x a i : Nat} {w : List UInt8} (h : Loc ws x a i w) : ∀ k, Loc ws (it (nx ws) k x) a ((i + k) % w.length) w
  | 0 => by rw [Nat.add_zero, Nat.mod_eq_of_lt h.lt]; exact h
  | k + 1 => by
    have := (h.steps k).step
    rw [Nat.mod_add_mod] at this
    exact this

/-- What is read from a place of the text. -/
def Rd (ws : List (List UInt8)) (x : Nat) (k : Nat) : Nat := bt ws.flatten (it (nx ws) k x)

theorem Loc.rd {ws : List (List UInt8)} {x a i : Nat} {w : List UInt8} (h : Loc ws x a i w) : Rd ws x = rd w i := by
  funext k
  unfold Rd bt Tur.rd
  rw [(h.steps k).letter]
  rfl

theorem nx_lt {ws : List (List UInt8)} {x : Nat} (h : x < ws.flatten.length) : nx ws x < ws.flatten.length := by
  obtain ⟨a, i, w, hl⟩ := loc_ex ws x h
  exact hl.step.small

theorem it_add (p : Nat → Nat) : ∀ (k m x : Nat), it p k (it p m x) = it p (m + k) x
  | 0, _, _ => rfl
  | k + 1, m, x => by
    show p (it p k (it p m x)) = it p (m + (k + 1)) x
    rw [it_add p k m x]
    rfl

theorem it_lt {ws : List (List UInt8)} {x : Nat} (h : x < ws.flatten.length) : ∀ k, it (nx ws) k x < ws.flatten.length
  | 0 => h
  | k + 1 => nx_lt (it_lt h k)

/-- One comes ahead within N letters. -/
def LtN (N : Nat) (f g : Nat → Nat) : Prop := ∃ k, k < N ∧ (∀ j, j < k → f j = g j) ∧ f k < g k

/-- Ranks by N letters. -/
def RankN (ws : List (List UInt8)) (N : Nat) (rk : Nat → Nat) : Prop := ∀ x y, x < ws.flatten.length → y < ws.flatten.length → (rk x < rk y ↔ LtN N (Rd ws x) (Rd ws y))

theorem RankN.start (ws : List (List UInt8)) : RankN ws 1 (bt ws.flatten) := by
  intro x y _ _
  constructor
  · intro h
    exact ⟨0, by omega, fun j hj => by omega, h⟩
  · rintro ⟨k, hk, _, h⟩
    have : k = 0 := by omega
    subst this
    exact h

theorem LtN.asymm {N : Nat} {f g : Nat → Nat} (h : LtN N f g) : ¬ LtN N g f := by
  obtain ⟨k, _, a, b⟩ := h
  rintro ⟨k', _, a', b'⟩
  exact Lt.asymm ⟨k, a, b⟩ ⟨k', a', b'⟩

theorem RankN.eq {ws : List (List UInt8)} {N : Nat} {rk : Nat → Nat} (h : RankN ws N rk) {x y : Nat} (hx : x < ws.flatten.length) (hy : y < ws.flatten.length) : rk x = rk y ↔ ∀ j, j < N → Rd ws x j = Rd ws y j := by
  have h1 := h x y hx hy
  have h2 := h y x hy hx
  constructor
  · intro e
    rcases parts (Rd ws x) (Rd ws y) N with p | ⟨k, a, b, c⟩
    · exact p
    · exfalso
      rcases c with c | c
      · have := h1.2 ⟨k, a, b, c⟩
        omega
      · have := h2.2 ⟨k, a, fun j hj => (b j hj).symm, c⟩
        omega
  · intro e
    rcases Nat.lt_trichotomy (rk x) (rk y) with p | p | p
    · obtain ⟨k, a, _, c⟩ := h1.1 p
      have := e k a
      omega
    · exact p
    · obtain ⟨k, a, _, c⟩ := h2.1 p
      have := e k a
      omega

theorem rd_shift (ws : List (List UInt8)) (x N k : Nat) : Rd ws (it (nx ws) N x) k = Rd ws x (N + k) := by
  unfold Rd
  rw [it_add]

/-- Twice as many letters. -/
theorem RankN.twice {ws : List (List UInt8)} {N : Nat} {rk rk' : Nat → Nat} (h : RankN ws N rk)
    (h' : ∀ x y, x < ws.flatten.length → y < ws.flatten.length → (rk' x < rk' y ↔ rk x < rk y ∨ (rk x = rk y ∧ rk (it (nx ws) N x) < rk (it (nx ws) N y)))) : RankN ws (N * 2) rk' := by
  intro x y hx hy
  rw [h' x y hx hy, h x y hx hy, h.eq hx hy, h _ _ (it_lt hx N) (it_lt hy N)]
  constructor
  · rintro (⟨k, a, b, c⟩ | ⟨e, k, a, b, c⟩)
    · exact ⟨k, by omega, b, c⟩
    · refine ⟨N + k, by omega, fun j hj => ?_, ?_⟩
      · by_cases hjN : j < N
        · exact e j hjN
        · have := b (j - N) (by omega)
          rw [rd_shift, rd_shift, show N + (j - N) = j by omega] at this
          exact this
      · rw [rd_shift, rd_shift] at c
        exact c
  · rintro ⟨k, a, b, c⟩
    by_cases hk : k < N
    · exact .inl ⟨k, hk, b, c⟩
    · refine .inr ⟨fun j hj => b j (by omega), k - N, by omega, fun j hj => ?_, ?_⟩
      · rw [rd_shift, rd_shift]
        exact b (N + j) (by omega)
      · rw [rd_shift, rd_shift, show N + (k - N) = k by omega]
        exact c

/-- Two places' words have together no more letters than there are, or are one. -/
theorem both_few : ∀ {ws : List (List UInt8)} {a b : Nat} {u v : List UInt8}, ws[a]? = some u → ws[b]? = some v → a < b → u.length + v.length ≤ ws.flatten.length := by
  intro ws
  induction ws with
  | nil => intro a b u v h; simp at h
  | cons w ws ih =>
    intro a b u v ha hb hab
    rw [List.flatten_cons, List.length_append]
    obtain ⟨b, rfl⟩ : ∃ b', b = b' + 1 := ⟨b - 1, by omega⟩
    have hb' : ws[b]? = some v := by simpa using hb
    cases a with
    | zero =>
      simp at ha
      subst ha
      have := (List.sublist_flatten_of_mem (List.mem_of_getElem? hb')).length_le
      omega
    | succ a =>
      have := ih (by simpa using ha) hb' (by omega)
      omega

/-- N letters are enough. -/
theorem enough {ws : List (List UInt8)} {N x y : Nat} (hN : ws.flatten.length ≤ N) (hx : x < ws.flatten.length) (hy : y < ws.flatten.length) (h : ¬ LtN N (Rd ws x) (Rd ws y)) : ¬ Lt (Rd ws x) (Rd ws y) := by
  rintro ⟨k, a, b⟩
  by_cases hk : k < N
  · exact h ⟨k, hk, a, b⟩
  · obtain ⟨a1, i, u, l1⟩ := loc_ex ws x hx
    obtain ⟨a2, j, v, l2⟩ := loc_ex ws y hy
    have hu := l1.lt
    have hv := l2.lt
    have p1 := rd_per u i
    have p2 := rd_per v j
    rw [← l1.rd] at p1
    rw [← l2.rd] at p2
    have hsame : Rd ws x = Rd ws y := by
      rcases Nat.lt_trichotomy a1 a2 with e | e | e
      · have := both_few l1.word l2.word e
        exact same_of (by omega) (by omega) p1 p2 (fun m hm => a m (by omega))
      · subst e
        have e2 : u = v := by
          have := l1.word
          rw [l2.word] at this
          simpa using this.symm
        subst e2
        have := (List.sublist_flatten_of_mem (List.mem_of_getElem? l1.word)).length_le
        exact same_one (by omega) p1 p2 (fun m hm => a m (by omega))
      · have := both_few l2.word l1.word e
        exact same_of (by omega) (by omega) p1 p2 (fun m hm => a m (by omega))
    rw [hsame] at b
    exact Nat.lt_irrefl _ b

/-! ### All places -/
theorem range_split (a b : Nat) : List.range (a + b) = List.range a ++ (List.range b).map fun x => a + x := by
  apply List.ext_getElem
  · simp
  · intro i h1 h2
    simp only [List.length_range] at h1
    by_cases h : i < a
    · rw [List.getElem_append_left (by simpa using h)]
      simp
    · rw [List.getElem_append_right (by simp; omega)]
      simp
      omega

theorem map_flat {β : Type} : ∀ (ws : List (List UInt8)) (F : Nat → β) (G : List UInt8 → Nat → β), (∀ a i w, ws[a]? = some w → i < w.length → F ((ws.take a).flatten.length + i) = G w i) →
    (List.range ws.flatten.length).map F = ws.flatMap fun w => (List.range w.length).map (G w)
  | [], _, _, _ => rfl
  | w :: ws, F, G, h => by
    rw [List.flatten_cons, List.length_append, range_split, List.map_append, List.map_map, List.flatMap_cons]
    congr 1
    · apply List.map_congr_left
      intro i hi
      have := h 0 i w rfl (List.mem_range.1 hi)
      simpa using this
    · refine map_flat ws (F ∘ fun x => w.length + x) G (fun a i v hv hi => ?_)
      have := h (a + 1) i v (by simpa using hv) hi
      rw [List.take_succ_cons, List.flatten_cons, List.length_append, Nat.add_assoc] at this
      exact this

theorem rot_perm {β : Type} (m : Nat) (g : Nat → β) : ((List.range m).map fun i => g ((i + 1) % m)).Perm ((List.range m).map g) := by
  cases m with
  | zero => exact .refl _
  | succ m =>
    have e1 : ((List.range (m + 1)).map fun i => g ((i + 1) % (m + 1))) = ((List.range m).map fun i => g (i + 1)) ++ [g 0] := by
      rw [List.range_succ, List.map_append]
      congr 1
      · apply List.map_congr_left
        intro i hi
        rw [List.mem_range] at hi
        rw [Nat.mod_eq_of_lt (by omega)]
      · simp
    have e2 : (List.range (m + 1)).map g = [g 0] ++ (List.range m).map fun i => g (i + 1) := by
      rw [List.range_succ_eq_map, List.map_cons, List.map_map]
      rfl
    rw [e1, e2]
    exact List.perm_append_comm

theorem ah_next {w : List UInt8} {i : Nat} (h : i < w.length) : ah w ((i + 1) % w.length) = w[i]?.getD 0 := by
  unfold ah
  congr 2
  by_cases h1 : i + 1 < w.length
  · rw [Nat.mod_eq_of_lt h1, show i + 1 + w.length - 1 = i + w.length by omega, Nat.add_mod_right, Nat.mod_eq_of_lt h]
  · have : i + 1 = w.length := by omega
    rw [this, Nat.mod_self, Nat.zero_add, Nat.mod_eq_of_lt (by omega)]
    omega

theorem places_perm (ws : List (List UInt8)) : ((List.range ws.flatten.length).map fun x => (Rd ws (nx ws x), ws.flatten[x]?.getD 0)).Perm ((places ws).map row) := by
  have e1 := map_flat ws (fun x => (Rd ws (nx ws x), ws.flatten[x]?.getD 0)) (fun w i => row (w, (i + 1) % w.length)) (fun a i w hw hi => by
    have l : Loc ws ((ws.take a).flatten.length + i) a i w := ⟨hw, hi, rfl⟩
    simp only [row, l.step.rd, l.letter, ah_next hi])
  rw [e1]
  unfold places
  rw [List.map_flatMap]
  clear e1
  induction ws with
  | nil => exact .refl _
  | cons w ws ih =>
    rw [List.flatMap_cons, List.flatMap_cons]
    refine List.Perm.append ?_ ih
    rw [List.map_map]
    exact rot_perm w.length (fun i => row (w, i))

/-- Sorted by their ranks, the letters of the places are the text, turned. -/
theorem turned_rows {ws : List (List UInt8)} {N : Nat} {rk : Nat → Nat} (hN : ws.flatten.length ≤ N) (hr : RankN ws N rk) {P : List Nat} (hP : P.Perm (List.range ws.flatten.length)) (hs : P.Pairwise fun x y => ¬ rk (nx ws y) < rk (nx ws x)) :
    Turned ws (P.map fun x => ws.flatten[x]?.getD 0) := by
  have hlt : ∀ x ∈ P, x < ws.flatten.length := fun x hx => List.mem_range.1 (hP.mem_iff.1 hx)
  refine ⟨P.map fun x => (Rd ws (nx ws x), ws.flatten[x]?.getD 0), (hP.map _).trans (places_perm ws), ?_, by rw [List.map_map]; rfl⟩
  unfold Srt
  rw [List.pairwise_map]
  refine List.Pairwise.imp_of_mem (fun {x y} hx hy h => ?_) hs
  refine enough hN (nx_lt (hlt y hy)) (nx_lt (hlt x hx)) fun h2 => h ?_
  exact (hr _ _ (nx_lt (hlt y hy)) (nx_lt (hlt x hx))).2 h2
end Go.Proofs.Ytkiindkoiomieaa.Tur
