import Derived.Test.YtkiindkoiomieaaGreatDoorJ01
import Derived.Lib.BitFns
import Derived.Lib.ItoaNum
section
/-
  Plain mathematics of P4: ranks of readings, by doubling. Nothing of the program.
-/
namespace Go.Proofs.YtkiindkoiomieaaGreatDoor.Tur
open Duv

/-- The place behind each place, going round in its word. -/
def nxt : List (List UInt8) → Nat → List Nat
  | [], _ => []
  | w :: ws, st => ((List.range w.length).map fun i => st + (i + 1) % w.length) ++ nxt ws (st + w.length)

theorem nxt_length : ∀ (ws : List (List UInt8)) (st : Nat), (nxt ws st).length = ws.flatten.length
  | [], _ => rfl
  | w :: ws, st => by rw [nxt, List.length_append, nxt_length ws, List.flatten_cons, List.length_append]; simp

theorem nxt_snoc : ∀ (us : List (List UInt8)) (u : List UInt8) (st : Nat), nxt (us ++ [u]) st = nxt us st ++ ((List.range u.length).map fun i => st + us.flatten.length + (i + 1) % u.length)
  | [], u, st => by simp [nxt]
  | w :: us, u, st => by
    rw [List.cons_append, nxt, nxt_snoc us u, nxt, List.append_assoc, List.flatten_cons, List.length_append]
    congr 2
    apply List.map_congr_left
    intro i _
    omega

/-- A place x of the text: place i of the a-th word. -/
structure Loc (ws : List (List UInt8)) (x a i : Nat) (w : List UInt8) : Prop where
  word : ws[a]? = some w
  lt : i < w.length
  eq : x = (ws.take a).flatten.length + i

theorem loc_ex : ∀ (ws : List (List UInt8)) (x : Nat), x < ws.flatten.length → ∃ a i w, Loc ws x a i w
  | [], x, h => by simp at h
  | w :: ws, x, h => by
    by_cases hx : x < w.length
    · exact ⟨0, x, w, rfl, hx, by simp⟩
    · rw [List.flatten_cons, List.length_append] at h
      obtain ⟨a, i, v, h1, h2, h3⟩ := loc_ex ws (x - w.length) (by omega)
      refine ⟨a + 1, i, v, by simpa using h1, h2, ?_⟩
      rw [List.take_succ_cons, List.flatten_cons, List.length_append]
      omega

theorem Loc.small {ws : List (List UInt8)} {x a i : Nat} {w : List UInt8} (h : Loc ws x a i w) : x < ws.flatten.length := by
  have h1 : (ws.take a ++ ws.drop a).flatten.length = ws.flatten.length := by rw [List.take_append_drop]
  have h2 : ws.drop a = w :: ws.drop (a + 1) := by
    obtain ⟨hl, e⟩ := List.getElem?_eq_some_iff.1 h.word
    rw [List.drop_eq_getElem_cons hl, e]
  rw [h2, List.flatten_append, List.length_append, List.flatten_cons, List.length_append] at h1
  have := h.eq
  have := h.lt
  omega

theorem Loc.letter : ∀ {ws : List (List UInt8)} {x a i : Nat} {w : List UInt8}, Loc ws x a i w → ws.flatten[x]? = w[i]? := by
  intro ws
  induction ws with
  | nil => intro x a i w h; have := h.word; simp at this
  | cons v ws ih =>
    intro x a i w h
    obtain ⟨h1, h2, h3⟩ := h
    cases a with
    | zero =>
      simp at h1 h3
      subst h1
      subst h3
      rw [List.flatten_cons, List.getElem?_append_left h2]
    | succ a =>
      rw [List.take_succ_cons, List.flatten_cons, List.length_append] at h3
      rw [List.flatten_cons, List.getElem?_append_right (by omega)]
      exact ih ⟨by simpa using h1, h2, by omega⟩

theorem Loc.nxt : ∀ {ws : List (List UInt8)} {x a i : Nat} {w : List UInt8} (st : Nat), Loc ws x a i w → (nxt ws st)[x]? = some (st + ((ws.take a).flatten.length + (i + 1) % w.length)) := by
  intro ws
  induction ws with
  | nil => intro x a i w st h; have := h.word; simp at this
  | cons v ws ih =>
    intro x a i w st h
    obtain ⟨h1, h2, h3⟩ := h
    cases a with
    | zero =>
      simp at h1 h3
      subst h1
      subst h3
      rw [Tur.nxt, List.getElem?_append_left (by simpa using h2)]
      simp [h2]
    | succ a =>
      rw [List.take_succ_cons, List.flatten_cons, List.length_append] at h3
      rw [Tur.nxt, List.getElem?_append_right (by simp; omega), List.length_map, List.length_range]
      rw [ih (st + v.length) (x := x - v.length) (a := a) (i := i) (w := w) ⟨by simpa using h1, h2, by omega⟩]
      rw [List.take_succ_cons, List.flatten_cons, List.length_append]
      congr 1
      omega

/-- The same as a function. -/
def nx (ws : List (List UInt8)) (x : Nat) : Nat := (nxt ws 0)[x]?.getD 0

theorem Loc.step {ws : List (List UInt8)} {x a i : Nat} {w : List UInt8} (h : Loc ws x a i w) : Loc ws (nx ws x) a ((i + 1) % w.length) w := by
  refine ⟨h.word, Nat.mod_lt _ (by have := h.lt; omega), ?_⟩
  unfold nx
  rw [h.nxt 0, Option.getD_some, Nat.zero_add]

theorem Loc.steps {ws : List (List UInt8)} {x a i : Nat} {w : List UInt8} (h : Loc ws x a i w) : ∀ k, Loc ws (it (nx ws) k x) a ((i + k) % w.length) w
  | 0 => by rw [Nat.add_zero, Nat.mod_eq_of_lt h.lt]; exact h
  | k + 1 => by
    have := (h.steps k).step
    rw [Nat.mod_add_mod] at this
    exact this

/-- What is read from a place of the text. -/
def Rd (ws : List (List UInt8)) (x : Nat) (k : Nat) : Nat := bt ws.flatten (it (nx ws) k x)

theorem Loc.rd {ws : List (List UInt8)} {x a i : Nat} {w : List UInt8} (h : Loc ws x a i w) : Rd ws x = rd w i := by
  funext k
  unfold Rd bt Tur.rd
  rw [(h.steps k).letter]
  rfl

theorem nx_lt {ws : List (List UInt8)} {x : Nat} (h : x < ws.flatten.length) : nx ws x < ws.flatten.length := by
  obtain ⟨a, i, w, hl⟩ := loc_ex ws x h
  exact hl.step.small

theorem it_add (p : Nat → Nat) : ∀ (k m x : Nat), it p k (it p m x) = it p (m + k) x
  | 0, _, _ => rfl
  | k + 1, m, x => by
    show p (it p k (it p m x)) = it p (m + (k + 1)) x
    rw [it_add p k m x]
    rfl

theorem it_lt {ws : List (List UInt8)} {x : Nat} (h : x < ws.flatten.length) : ∀ k, it (nx ws) k x < ws.flatten.length
  | 0 => h
  | k + 1 => nx_lt (it_lt h k)

/-- One comes ahead within N letters. -/
def LtN (N : Nat) (f g : Nat → Nat) : Prop := ∃ k, k < N ∧ (∀ j, j < k → f j = g j) ∧ f k < g k

/-- Ranks by N letters. -/
def RankN (ws : List (List UInt8)) (N : Nat) (rk : Nat → Nat) : Prop := ∀ x y, x < ws.flatten.length → y < ws.flatten.length → (rk x < rk y ↔ LtN N (Rd ws x) (Rd ws y))

theorem RankN.start (ws : List (List UInt8)) : RankN ws 1 (bt ws.flatten) := by
  intro x y _ _
  constructor
  · intro h
    exact ⟨0, by omega, fun j hj => by omega, h⟩
  · rintro ⟨k, hk, _, h⟩
    have : k = 0 := by omega
    subst this
    exact h

theorem LtN.asymm {N : Nat} {f g : Nat → Nat} (h : LtN N f g) : ¬ LtN N g f := by
  obtain ⟨k, _, a, b⟩ := h
  rintro ⟨k', _, a', b'⟩
  exact Lt.asymm ⟨k, a, b⟩ ⟨k', a', b'⟩

theorem RankN.eq {ws : List (List UInt8)} {N : Nat} {rk : Nat → Nat} (h : RankN ws N rk) {x y : Nat} (hx : x < ws.flatten.length) (hy : y < ws.flatten.length) : rk x = rk y ↔ ∀ j, j < N → Rd ws x j = Rd ws y j := by
  have h1 := h x y hx hy
  have h2 := h y x hy hx
  constructor
  · intro e
    rcases parts (Rd ws x) (Rd ws y) N with p | ⟨k, a, b, c⟩
    · exact p
    · exfalso
      rcases c with c | c
      · have := h1.2 ⟨k, a, b, c⟩
        omega
      · have := h2.2 ⟨k, a, fun j hj => (b j hj).symm, c⟩
        omega
  · intro e
    rcases Nat.lt_trichotomy (rk x) (rk y) with p | p | p
    · obtain ⟨k, a, _, c⟩ := h1.1 p
      have := e k a
      omega
    · exact p
    · obtain ⟨k, a, _, c⟩ := h2.1 p
      have := e k a
      omega

theorem rd_shift (ws : List (List UInt8)) (x N k : Nat) : Rd ws (it (nx ws) N x) k = Rd ws x (N + k) := by
  unfold Rd
  rw [it_add]

/-- Twice as many letters. -/
theorem RankN.twice {ws : List (List UInt8)} {N : Nat} {rk rk' : Nat → Nat} (h : RankN ws N rk)
    (h' : ∀ x y, x < ws.flatten.length → y < ws.flatten.length → (rk' x < rk' y ↔ rk x < rk y ∨ (rk x = rk y ∧ rk (it (nx ws) N x) < rk (it (nx ws) N y)))) : RankN ws (N * 2) rk' := by
  intro x y hx hy
  rw [h' x y hx hy, h x y hx hy, h.eq hx hy, h _ _ (it_lt hx N) (it_lt hy N)]
  constructor
  · rintro (⟨k, a, b, c⟩ | ⟨e, k, a, b, c⟩)
    · exact ⟨k, by omega, b, c⟩
    · refine ⟨N + k, by omega, fun j hj => ?_, ?_⟩
      · by_cases hjN : j < N
        · exact e j hjN
        · have := b (j - N) (by omega)
          rw [rd_shift, rd_shift, show N + (j - N) = j by omega] at this
          exact this
      · rw [rd_shift, rd_shift] at c
        exact c
  · rintro ⟨k, a, b, c⟩
    by_cases hk : k < N
    · exact .inl ⟨k, hk, b, c⟩
    · refine .inr ⟨fun j hj => b j (by omega), k - N, by omega, fun j hj => ?_, ?_⟩
      · rw [rd_shift, rd_shift]
        exact b (N + j) (by omega)
      · rw [rd_shift, rd_shift, show N + (k - N) = k by omega]
        exact c

/-- Two places' words have together no more letters than there are, or are one. -/
theorem both_few : ∀ {ws : List (List UInt8)} {a b : Nat} {u v : List UInt8}, ws[a]? = some u → ws[b]? = some v → a < b → u.length + v.length ≤ ws.flatten.length := by
  intro ws
  induction ws with
  | nil => intro a b u v h; simp at h
  | cons w ws ih =>
    intro a b u v ha hb hab
    rw [List.flatten_cons, List.length_append]
    obtain ⟨b, rfl⟩ : ∃ b', b = b' + 1 := ⟨b - 1, by omega⟩
    have hb' : ws[b]? = some v := by simpa using hb
    cases a with
    | zero =>
      simp at ha
      subst ha
      have := (List.sublist_flatten_of_mem (List.mem_of_getElem? hb')).length_le
      omega
    | succ a =>
      have := ih (by simpa using ha) hb' (by omega)
      omega

/-- N letters are enough. -/
theorem enough {ws : List (List UInt8)} {N x y : Nat} (hN : ws.flatten.length ≤ N) (hx : x < ws.flatten.length) (hy : y < ws.flatten.length) (h : ¬ LtN N (Rd ws x) (Rd ws y)) : ¬ Lt (Rd ws x) (Rd ws y) := by
  rintro ⟨k, a, b⟩
  by_cases hk : k < N
  · exact h ⟨k, hk, a, b⟩
  · obtain ⟨a1, i, u, l1⟩ := loc_ex ws x hx
    obtain ⟨a2, j, v, l2⟩ := loc_ex ws y hy
    have hu := l1.lt
    have hv := l2.lt
    have p1 := rd_per u i
    have p2 := rd_per v j
    rw [← l1.rd] at p1
    rw [← l2.rd] at p2
    have hsame : Rd ws x = Rd ws y := by
      rcases Nat.lt_trichotomy a1 a2 with e | e | e
      · have := both_few l1.word l2.word e
        exact same_of (by omega) (by omega) p1 p2 (fun m hm => a m (by omega))
      · subst e
        have e2 : u = v := by
          have := l1.word
          rw [l2.word] at this
          simpa using this.symm
        subst e2
        have := (List.sublist_flatten_of_mem (List.mem_of_getElem? l1.word)).length_le
        exact same_one (by omega) p1 p2 (fun m hm => a m (by omega))
      · have := both_few l2.word l1.word e
        exact same_of (by omega) (by omega) p1 p2 (fun m hm => a m (by omega))
    rw [hsame] at b
    exact Nat.lt_irrefl _ b

/-! ### All places -/
theorem range_split (a b : Nat) : List.range (a + b) = List.range a ++ (List.range b).map fun x => a + x := by
  apply List.ext_getElem
  · simp
  · intro i h1 h2
    simp only [List.length_range] at h1
    by_cases h : i < a
    · rw [List.getElem_append_left (by simpa using h)]
      simp
    · rw [List.getElem_append_right (by simp; omega)]
      simp
      omega

theorem map_flat {β : Type} : ∀ (ws : List (List UInt8)) (F : Nat → β) (G : List UInt8 → Nat → β), (∀ a i w, ws[a]? = some w → i < w.length → F ((ws.take a).flatten.length + i) = G w i) →
    (List.range ws.flatten.length).map F = ws.flatMap fun w => (List.range w.length).map (G w)
  | [], _, _, _ => rfl
  | w :: ws, F, G, h => by
    rw [List.flatten_cons, List.length_append, range_split, List.map_append, List.map_map, List.flatMap_cons]
    congr 1
    · apply List.map_congr_left
      intro i hi
      have := h 0 i w rfl (List.mem_range.1 hi)
      simpa using this
    · refine map_flat ws (F ∘ fun x => w.length + x) G (fun a i v hv hi => ?_)
      have := h (a + 1) i v (by simpa using hv) hi
      rw [List.take_succ_cons, List.flatten_cons, List.length_append, Nat.add_assoc] at this
      exact this

theorem rot_perm {β : Type} (m : Nat) (g : Nat → β) : ((List.range m).map fun i => g ((i + 1) % m)).Perm ((List.range m).map g) := by
  cases m with
  | zero => exact .refl _
  | succ m =>
    have e1 : ((List.range (m + 1)).map fun i => g ((i + 1) % (m + 1))) = ((List.range m).map fun i => g (i + 1)) ++ [g 0] := by
      rw [List.range_succ, List.map_append]
      congr 1
      · apply List.map_congr_left
        intro i hi
        rw [List.mem_range] at hi
        rw [Nat.mod_eq_of_lt (by omega)]
      · simp
    have e2 : (List.range (m + 1)).map g = [g 0] ++ (List.range m).map fun i => g (i + 1) := by
      rw [List.range_succ_eq_map, List.map_cons, List.map_map]
      rfl
    rw [e1, e2]
    exact List.perm_append_comm

theorem ah_next {w : List UInt8} {i : Nat} (h : i < w.length) : ah w ((i + 1) % w.length) = w[i]?.getD 0 := by
  unfold ah
  congr 2
  by_cases h1 : i + 1 < w.length
  · rw [Nat.mod_eq_of_lt h1, show i + 1 + w.length - 1 = i + w.length by omega, Nat.add_mod_right, Nat.mod_eq_of_lt h]
  · have : i + 1 = w.length := by omega
    rw [this, Nat.mod_self, Nat.zero_add, Nat.mod_eq_of_lt (by omega)]
    omega

theorem places_perm (ws : List (List UInt8)) : ((List.range ws.flatten.length).map fun x => (Rd ws (nx ws x), ws.flatten[x]?.getD 0)).Perm ((places ws).map row) := by
  have e1 := map_flat ws (fun x => (Rd ws (nx ws x), ws.flatten[x]?.getD 0)) (fun w i => row (w, (i + 1) % w.length)) (fun a i w hw hi => by
    have l : Loc ws ((ws.take a).flatten.length + i) a i w := ⟨hw, hi, rfl⟩
    simp only [row, l.step.rd, l.letter, ah_next hi])
  rw [e1]
  unfold places
  rw [List.map_flatMap]
  clear e1
  induction ws with
  | nil => exact .refl _
  | cons w ws ih =>
    rw [List.flatMap_cons, List.flatMap_cons]
    refine List.Perm.append ?_ ih
    rw [List.map_map]
    exact rot_perm w.length (fun i => row (w, i))

/-- Sorted by their ranks, the letters of the places are the text, turned. -/
theorem turned_rows {ws : List (List UInt8)} {N : Nat} {rk : Nat → Nat} (hN : ws.flatten.length ≤ N) (hr : RankN ws N rk) {P : List Nat} (hP : P.Perm (List.range ws.flatten.length)) (hs : P.Pairwise fun x y => ¬ rk (nx ws y) < rk (nx ws x)) :
    Turned ws (P.map fun x => ws.flatten[x]?.getD 0) := by
  have hlt : ∀ x ∈ P, x < ws.flatten.length := fun x hx => List.mem_range.1 (hP.mem_iff.1 hx)
  refine ⟨P.map fun x => (Rd ws (nx ws x), ws.flatten[x]?.getD 0), (hP.map _).trans (places_perm ws), ?_, by rw [List.map_map]; rfl⟩
  unfold Srt
  rw [List.pairwise_map]
  refine List.Pairwise.imp_of_mem (fun {x y} hx hy h => ?_) hs
  refine enough hN (nx_lt (hlt y hy)) (nx_lt (hlt x hx)) fun h2 => h ?_
  exact (hr _ _ (nx_lt (hlt y hy)) (nx_lt (hlt x hx))).2 h2
end Go.Proofs.YtkiindkoiomieaaGreatDoor.Tur
end

section
/-
  Plain mathematics of P4: the cycles, gone through one by one. Nothing of the program.
-/
namespace Go.Proofs.YtkiindkoiomieaaGreatDoor.Tur
open Duv

/-- All rows of these cycles. -/
def allRows (p : Nat → Nat) (cs : List (Nat × Nat)) : List Nat := cs.flatMap (rows p)

theorem allRows_cons (p : Nat → Nat) (c : Nat × Nat) (cs : List (Nat × Nat)) : allRows p (c :: cs) = rows p c ++ allRows p cs := by simp [allRows]

theorem mem_rows {p : Nat → Nat} {f j r : Nat} : r ∈ rows p (f, j) ↔ ∃ i, i < j ∧ it p i f = r := by
  simp [rows]

theorem rows_next (p : Nat → Nat) (f j : Nat) : rows p (f, j + 1) = rows p (f, j) ++ [it p j f] := by
  simp [rows, List.range_succ]

theorem rows_length (p : Nat → Nat) (f j : Nat) : (rows p (f, j)).length = j := by simp [rows]

theorem word_next (t : List UInt8) (p : Nat → Nat) (f j : Nat) : word t p (f, j + 1) = (t[it p j f]?.getD 0) :: word t p (f, j) := by
  unfold word
  simp only
  rw [List.range_succ_eq_map, List.map_cons, List.map_map]
  congr 1
  apply List.map_congr_left
  intro i _
  simp only [Function.comp_apply]
  congr 3
  omega

/-- Rows below f have been met, in these cycles. -/
structure Met (t : List UInt8) (p : Nat → Nat) (cs : List (Nat × Nat)) (f : Nat) : Prop where
  cyc : ∀ c ∈ cs, Cyc t p c
  down : cs.Pairwise fun c d => d.1 < c.1
  nodup : (allRows p cs).Nodup
  all : ∀ r, r < f → r ∈ allRows p cs
  lt : ∀ c ∈ cs, c.1 < f

theorem Met.start (t : List UInt8) (p : Nat → Nat) : Met t p [] 0 :=
  ⟨by simp, List.Pairwise.nil, by simp [allRows], fun r h => by omega, by simp⟩

theorem Met.small {t : List UInt8} {p : Nat → Nat} (hA : Ahead t p) {cs : List (Nat × Nat)} {f : Nat} (h : Met t p cs f) {r : Nat} (hr : r ∈ allRows p cs) : r < t.length := by
  obtain ⟨c, hc, hr⟩ := List.mem_flatMap.1 hr
  obtain ⟨j, _, rfl⟩ := List.mem_map.1 hr
  exact hA.it_lt (h.cyc c hc).lt _

/-- j steps from f on. -/
structure Steps (t : List UInt8) (p : Nat → Nat) (cs : List (Nat × Nat)) (f j : Nat) : Prop where
  nodup : (rows p (f, j) ++ allRows p cs).Nodup
  lt : f < t.length

theorem Steps.start {t : List UInt8} {p : Nat → Nat} {cs : List (Nat × Nat)} {f : Nat} (h : Met t p cs f) (hf : f < t.length) : Steps t p cs f 0 :=
  ⟨by simpa [rows] using h.nodup, hf⟩

theorem Steps.few {t : List UInt8} {p : Nat → Nat} (hA : Ahead t p) {cs : List (Nat × Nat)} {f j : Nat} (hm : Met t p cs f) (h : Steps t p cs f j) : j + (allRows p cs).length ≤ t.length := by
  have := List.Nodup.length_le_of_subset (l₂ := List.range t.length) h.nodup (fun r hr => by
    rw [List.mem_range]
    rcases List.mem_append.1 hr with hr | hr
    · obtain ⟨i, _, rfl⟩ := mem_rows.1 hr
      exact hA.it_lt h.lt _
    · exact hm.small hA hr)
  rw [List.length_append, rows_length, List.length_range] at this
  exact this

theorem Steps.next {t : List UInt8} {p : Nat → Nat} {cs : List (Nat × Nat)} {f j : Nat} (h : Steps t p cs f j) (hn : it p j f ∉ rows p (f, j) ++ allRows p cs) : Steps t p cs f (j + 1) := by
  refine ⟨?_, h.lt⟩
  rw [rows_next, List.append_assoc]
  have h1 := h.nodup
  rw [List.nodup_append] at h1 ⊢
  obtain ⟨a, b, c⟩ := h1
  refine ⟨a, ?_, fun x hx y hy => ?_⟩
  · rw [List.singleton_append, List.nodup_cons]
    exact ⟨fun h' => hn (List.mem_append.2 (.inr h')), b⟩
  · rw [List.singleton_append] at hy
    rcases List.mem_cons.1 hy with rfl | hy
    · intro e
      rw [e] at hx
      exact hn (List.mem_append.2 (.inl hx))
    · exact c x hx y hy

theorem Steps.close {t : List UInt8} {p : Nat → Nat} (hA : Ahead t p) {cs : List (Nat × Nat)} {f j : Nat} (hm : Met t p cs f) (h : Steps t p cs f j) (hj : 0 < j) (hmem : it p j f ∈ rows p (f, j) ++ allRows p cs) : it p j f = f := by
  obtain ⟨m, rfl⟩ : ∃ m, j = m + 1 := ⟨j - 1, by omega⟩
  have hlast : it p m f ∈ rows p (f, m + 1) := mem_rows.2 ⟨m, by omega, rfl⟩
  have hnd := h.nodup
  rw [List.nodup_append] at hnd
  rcases List.mem_append.1 hmem with hr | hr
  · obtain ⟨i, hi, e⟩ := mem_rows.1 hr
    cases i with
    | zero => exact e.symm
    | succ i =>
      exfalso
      have e' : it p i f = it p m f := hA.inj (hA.it_lt h.lt _) (hA.it_lt h.lt _) e
      have h1 := hnd.1
      unfold rows at h1
      rw [List.nodup_iff_pairwise_ne, List.pairwise_map] at h1
      have := List.pairwise_iff_getElem.1 h1 i m (by simp; omega) (by simp) (by omega)
      simp only [List.getElem_range] at this
      exact this e'
  · exfalso
    obtain ⟨c, hc, hr'⟩ := List.mem_flatMap.1 hr
    obtain ⟨c1, c2⟩ := c
    obtain ⟨i, hi, e⟩ := mem_rows.1 hr'
    have hcy := hm.cyc _ hc
    have hpos : 0 < c2 := hcy.pos
    have hlt : c1 < t.length := hcy.lt
    have hround : it p c2 c1 = c1 := hcy.round
    have key : ∀ k, k < c2 → p (it p k c1) = p (it p m f) → False := fun k hk e2 => by
      have e3 := hA.inj (hA.it_lt hlt _) (hA.it_lt h.lt _) e2
      exact hnd.2.2 _ hlast _ (List.mem_flatMap.2 ⟨_, hc, mem_rows.2 ⟨k, hk, e3⟩⟩) rfl
    cases i with
    | zero =>
      obtain ⟨k, rfl⟩ : ∃ k, c2 = k + 1 := ⟨c2 - 1, by omega⟩
      refine key k (by omega) ?_
      have e4 : c1 = it p (m + 1) f := e
      rw [← hround] at e4
      exact e4
    | succ i => exact key i (by omega) e

theorem Met.again {t : List UInt8} {p : Nat → Nat} {cs : List (Nat × Nat)} {f : Nat} (h : Met t p cs f) (hf : f ∈ allRows p cs) : Met t p cs (f + 1) :=
  ⟨h.cyc, h.down, h.nodup, fun r hr => by
    by_cases e : r = f
    · subst e; exact hf
    · exact h.all r (by omega), fun c hc => Nat.lt_succ_of_lt (h.lt c hc)⟩

theorem Met.more {t : List UInt8} {p : Nat → Nat} {cs : List (Nat × Nat)} {f j : Nat} (hm : Met t p cs f) (h : Steps t p cs f j) (hj : 0 < j) (hr : it p j f = f) : Met t p ((f, j) :: cs) (f + 1) := by
  have hnd := h.nodup
  rw [List.nodup_append] at hnd
  have hcyc : Cyc t p (f, j) := by
    refine ⟨hj, h.lt, hr, fun i hi0 hi1 => ?_⟩
    have hin : it p i f ∈ rows p (f, j) := mem_rows.2 ⟨i, hi1, rfl⟩
    rcases Nat.lt_trichotomy f (it p i f) with e | e | e
    · exact e
    · exfalso
      have h1 := hnd.1
      unfold rows at h1
      rw [List.nodup_iff_pairwise_ne, List.pairwise_map] at h1
      have := List.pairwise_iff_getElem.1 h1 0 i (by simp; omega) (by simpa using hi1) hi0
      simp only [List.getElem_range] at this
      exact this e
    · exfalso
      exact hnd.2.2 _ hin _ (hm.all _ e) rfl
  refine ⟨fun c hc => ?_, ?_, ?_, fun r hr => ?_, fun c hc => ?_⟩
  · rcases List.mem_cons.1 hc with rfl | hc
    · exact hcyc
    · exact hm.cyc c hc
  · rw [List.pairwise_cons]
    exact ⟨fun c hc => hm.lt c hc, hm.down⟩
  · rw [allRows_cons]
    exact h.nodup
  · rw [allRows_cons]
    by_cases e : r = f
    · subst e
      exact List.mem_append.2 (.inl (mem_rows.2 ⟨0, hj, rfl⟩))
    · exact List.mem_append.2 (.inr (hm.all r (by omega)))
  · rcases List.mem_cons.1 hc with rfl | hc
    · exact Nat.lt_succ_self _
    · exact Nat.lt_succ_of_lt (hm.lt c hc)

theorem Met.done {t : List UInt8} {p : Nat → Nat} (hA : Ahead t p) {cs : List (Nat × Nat)} (h : Met t p cs t.length) : All t p cs := by
  refine ⟨h.cyc, h.down, (List.perm_ext_iff_of_nodup h.nodup List.nodup_range).2 fun r => ?_⟩
  rw [List.mem_range]
  exact ⟨fun hr => h.small hA hr, fun hr => h.all r hr⟩

theorem words_length (t : List UInt8) (p : Nat → Nat) : ∀ cs : List (Nat × Nat), (cs.map (word t p)).flatten.length = (allRows p cs).length
  | [] => rfl
  | c :: cs => by
    rw [List.map_cons, List.flatten_cons, List.length_append, word_length, allRows_cons, List.length_append, words_length t p cs]
    simp [rows]
end Go.Proofs.YtkiindkoiomieaaGreatDoor.Tur
end

section
/-
  Plain mathematics of P4: there are some for any bytes, and just one such text. Nothing of the program.
-/
namespace Go.Proofs.YtkiindkoiomieaaGreatDoor.Tur
open Duv

/-! ### For any bytes there are some -/
/-- One row stands ahead of another, by its letter and then by its place. -/
def rowLt (t : List UInt8) (q r : Nat) : Bool := decide (bt t q < bt t r) || (decide (bt t q = bt t r) && decide (q < r))

theorem rowLt_iff (t : List UInt8) (q r : Nat) : rowLt t q r = true ↔ bt t q < bt t r ∨ (bt t q = bt t r ∧ q < r) := by simp [rowLt]

/-- How many stand ahead of it. -/
def rank (t : List UInt8) (r : Nat) : Nat := (List.range t.length).countP fun q => rowLt t q r

theorem countP_lt {α : Type} {p q : α → Bool} : ∀ {l : List α}, (∀ x, p x = true → q x = true) → ∀ {y : α}, y ∈ l → p y = false → q y = true → l.countP p < l.countP q
  | [], _, _, h, _, _ => by simp at h
  | x :: l, hpq, y, h, h1, h2 => by
    have hle : l.countP p ≤ l.countP q := List.countP_mono_left fun z _ hz => hpq z hz
    rcases List.mem_cons.1 h with e | h
    · subst e
      rw [List.countP_cons, List.countP_cons, h1, h2]
      simp
      omega
    · have ih := countP_lt hpq h h1 h2
      rw [List.countP_cons, List.countP_cons]
      cases hp : p x with
      | false => cases q x <;> simp <;> omega
      | true => rw [hpq x hp]; simp; omega

theorem rank_ahead (t : List UInt8) : Ahead t (rank t) := by
  have key : ∀ r s, r < t.length → rowLt t r s = true → rank t r < rank t s := fun r s hr h => by
    refine countP_lt (fun q hq => ?_) (y := r) (List.mem_range.2 hr) ?_ h
    · rw [rowLt_iff] at hq h ⊢
      omega
    · cases e : rowLt t r r with
      | false => rfl
      | true => rw [rowLt_iff] at e; omega
  refine ⟨fun r hr => ?_, fun r s hr hs => ?_⟩
  · have h1 : rank t r < (List.range t.length).countP fun _ => true := by
      refine countP_lt (fun _ _ => rfl) (y := r) (List.mem_range.2 hr) ?_ rfl
      cases e : rowLt t r r with
      | false => rfl
      | true => rw [rowLt_iff] at e; omega
    simpa using h1
  · constructor
    · intro h
      rcases Nat.lt_trichotomy (bt t r) (bt t s) with e | e | e
      · exact .inl e
      · rcases Nat.lt_trichotomy r s with e2 | e2 | e2
        · exact .inr ⟨e, e2⟩
        · subst e2; omega
        · have := key s r hs ((rowLt_iff t s r).2 (.inr ⟨e.symm, e2⟩))
          omega
      · have := key s r hs ((rowLt_iff t s r).2 (.inl e))
        omega
    · intro h
      exact key r s hr ((rowLt_iff t r s).2 h)

theorem Steps.ends {t : List UInt8} {p : Nat → Nat} (hA : Ahead t p) {cs : List (Nat × Nat)} {f : Nat} (hm : Met t p cs f) (hf : f ∉ allRows p cs) : ∀ k j, Steps t p cs f j → t.length - j ≤ k → ∃ j', 0 < j' ∧ Steps t p cs f j' ∧ it p j' f = f
  | 0, j, h, hk => by
    have h1 := h.few hA hm
    have h2 := h.lt
    by_cases hin : it p j f ∈ rows p (f, j) ++ allRows p cs
    · exact ⟨j, by omega, h, h.close hA hm (by omega) hin⟩
    · have := (h.next hin).few hA hm
      omega
  | k + 1, j, h, hk => by
    by_cases hin : it p j f ∈ rows p (f, j) ++ allRows p cs
    · by_cases hj : j = 0
      · subst hj
        exfalso
        exact hf (by simpa [rows, it] using hin)
      · exact ⟨j, by omega, h, h.close hA hm (by omega) hin⟩
    · exact Steps.ends hA hm hf k (j + 1) (h.next hin) (by omega)

theorem met_all {t : List UInt8} {p : Nat → Nat} (hA : Ahead t p) : ∀ f, f ≤ t.length → ∃ cs, Met t p cs f
  | 0, _ => ⟨[], Met.start t p⟩
  | f + 1, h => by
    obtain ⟨cs, hm⟩ := met_all hA f (by omega)
    by_cases hf : f ∈ allRows p cs
    · exact ⟨cs, hm.again hf⟩
    · obtain ⟨j, hj, hs, hr⟩ := Steps.ends hA hm hf t.length 0 (Steps.start hm (by omega)) (by omega)
      exact ⟨(f, j) :: cs, hm.more hs hj hr⟩

theorem back_ex (t : List UInt8) : ∃ us, Good us ∧ Turned us t := by
  obtain ⟨cs, hm⟩ := met_all (rank_ahead t) t.length (Nat.le_refl _)
  have hall := hm.done (rank_ahead t)
  exact ⟨_, hall.good (rank_ahead t), hall.turned (rank_ahead t)⟩

/-! ### And just one -/
/-- All texts of n letters. -/
def texts : Nat → List (List UInt8)
  | 0 => [[]]
  | n + 1 => (texts n).flatMap fun l => ((List.range 256).map UInt8.ofNat).map fun c => c :: l

theorem mem_texts : ∀ (n : Nat) (l : List UInt8), l ∈ texts n ↔ l.length = n
  | 0, l => by simp [texts, List.length_eq_zero_iff]
  | n + 1, l => by
    rw [texts, List.mem_flatMap]
    constructor
    · rintro ⟨m, hm, hl⟩
      rw [List.mem_map] at hl
      obtain ⟨c, _, rfl⟩ := hl
      rw [List.length_cons, (mem_texts n m).1 hm]
    · intro h
      cases l with
      | nil => simp at h
      | cons c l =>
        refine ⟨l, (mem_texts n l).2 (by simpa using h), List.mem_map.2 ⟨c, List.mem_map.2 ⟨c.toNat, List.mem_range.2 c.toNat_lt, by simp⟩, rfl⟩⟩

theorem texts_nodup : ∀ n : Nat, (texts n).Nodup
  | 0 => by simp [texts]
  | n + 1 => by
    rw [texts, List.nodup_iff_pairwise_ne, List.pairwise_flatMap]
    refine ⟨fun l _ => ?_, ?_⟩
    · rw [List.pairwise_map, List.pairwise_map]
      refine List.Pairwise.imp_of_mem (fun {a b} ha hb hab e => ?_) List.pairwise_lt_range
      rw [List.mem_range] at ha hb
      simp only [List.cons.injEq, and_true] at e
      have := congrArg UInt8.toNat e
      simp at this
      omega
    · refine (List.nodup_iff_pairwise_ne.1 (texts_nodup n)).imp fun {a b} hab x hx y hy e => ?_
      obtain ⟨c, _, rfl⟩ := List.mem_map.1 hx
      obtain ⟨d, _, rfl⟩ := List.mem_map.1 hy
      simp only [List.cons.injEq] at e
      exact hab e.2

/-- What leads different ones of finitely many to different ones among them comes to each. -/
theorem onto {α : Type} {L : List α} (hL : L.Nodup) (f : α → α) (hf : ∀ x ∈ L, f x ∈ L) (hi : ∀ x ∈ L, ∀ y ∈ L, f x = f y → x = y) {y : α} (hy : y ∈ L) : ∃ x ∈ L, f x = y := by
  apply Classical.byContradiction
  intro hno
  have hnd : (L.map f).Nodup := by
    rw [List.nodup_iff_pairwise_ne, List.pairwise_map]
    refine List.Pairwise.imp_of_mem (fun {a b} ha hb hab e => hab (hi a ha b hb e)) (List.nodup_iff_pairwise_ne.1 hL)
  have h2 : (y :: L.map f).Nodup := by
    rw [List.nodup_cons]
    refine ⟨fun h => ?_, hnd⟩
    obtain ⟨x, hx, e⟩ := List.mem_map.1 h
    exact hno ⟨x, hx, e⟩
  have := List.Nodup.length_le_of_subset (l₂ := L) h2 (fun z hz => by
    rcases List.mem_cons.1 hz with rfl | hz
    · exact hy
    · obtain ⟨x, hx, rfl⟩ := List.mem_map.1 hz
      exact hf x hx)
  simp at this
  omega

theorem turned_inj {ws us : List (List UInt8)} {t : List UInt8} (h1 : Good ws) (h2 : Good us) (t1 : Turned ws t) (t2 : Turned us t) : ws = us := by
  have hb : ∀ t : List UInt8, ∃ us, Good us ∧ Turned us t := back_ex
  let B : List UInt8 → List (List UInt8) := fun t => (hb t).choose
  have hBg : ∀ t, Good (B t) := fun t => (hb t).choose_spec.1
  have hBt : ∀ t, Turned (B t) t := fun t => (hb t).choose_spec.2
  have hlen : ∀ t, (B t).flatten.length = t.length := fun t => (hBt t).length.symm
  have key : ∀ ws : List (List UInt8), Good ws → Turned ws t → ws = B t := fun ws hg ht => by
    have hn : ws.flatten.length = t.length := ht.length.symm
    obtain ⟨x, hx, e⟩ := onto (L := texts t.length) (texts_nodup _) (fun s => (B s).flatten)
      (fun s hs => by
        rw [mem_texts] at hs ⊢
        rw [hlen, hs])
      (fun a _ b _ e => by
        have e2 := good_unique _ _ (hBg a) (hBg b) e
        have ha := hBt a
        rw [e2] at ha
        exact ha.unique (hBt b))
      (y := ws.flatten) (by rw [mem_texts]; exact hn)
    have e2 := good_unique _ _ (hBg x) hg e
    have hx2 := hBt x
    rw [e2] at hx2
    have := hx2.unique ht
    rw [← this, e2]
  rw [key ws h1 t1, key us h2 t2]

/-- The same bytes. -/
theorem Turned.perm {ws : List (List UInt8)} {t : List UInt8} (h : Turned ws t) : t.Perm ws.flatten := by
  obtain ⟨l, p, _, rfl⟩ := h
  have h1 := (places_perm ws).map Prod.snd
  rw [List.map_map] at h1
  have e : (List.range ws.flatten.length).map (Prod.snd ∘ fun x => (Rd ws (nx ws x), ws.flatten[x]?.getD 0)) = ws.flatten := by
    apply List.ext_getElem
    · simp
    · intro i h1 h2
      simp only [List.getElem_map, List.getElem_range, Function.comp_apply]
      rw [List.getElem?_eq_getElem h2, Option.getD_some]
  rw [e] at h1
  exact (p.map Prod.snd).trans h1.symm
end Go.Proofs.YtkiindkoiomieaaGreatDoor.Tur
end

section
/-
  Plain mathematics: the document's example, turned. Nothing of the program.
-/
namespace Go.Proofs.YtkiindkoiomieaaGreatDoor.Tur
open Duv

/-- One comes ahead of another within N letters: to be reckoned. -/
def ltB (N : Nat) (f g : Nat → Nat) : Bool := (List.range N).any fun k => (List.range k).all (fun j => f j == g j) && decide (f k < g k)

theorem ltB_iff (N : Nat) (f g : Nat → Nat) : ltB N f g = true ↔ LtN N f g := by
  unfold ltB LtN
  rw [List.any_eq_true]
  constructor
  · rintro ⟨k, hk, h⟩
    rw [Bool.and_eq_true, List.all_eq_true] at h
    exact ⟨k, List.mem_range.1 hk, fun j hj => by simpa using h.1 j (List.mem_range.2 hj), by simpa using h.2⟩
  · rintro ⟨k, hk, h1, h2⟩
    refine ⟨k, List.mem_range.2 hk, ?_⟩
    rw [Bool.and_eq_true, List.all_eq_true]
    exact ⟨fun j hj => by simpa using h1 j (List.mem_range.1 hj), by simpa using h2⟩

/-- As many letters as both words have are enough. -/
theorem ltP_reckon {p q : List UInt8 × Nat} (hp : 0 < p.1.length) (hq : 0 < q.1.length) (h : ltB (p.1.length + q.1.length) (rd p.1 p.2) (rd q.1 q.2) = false) : ¬ LtP p q := by
  rintro ⟨k, a, b⟩
  have hn : ¬ LtN (p.1.length + q.1.length) (rd p.1 p.2) (rd q.1 q.2) := fun h2 => by
    rw [← ltB_iff, h] at h2
    cases h2
  by_cases hk : k < p.1.length + q.1.length
  · exact hn ⟨k, hk, a, b⟩
  · have := same_of hp hq (rd_per p.1 p.2) (rd_per q.1 q.2) (fun j hj => a j (by omega))
    rw [this] at b
    exact Nat.lt_irrefl _ b

/-- A sorted list, to be reckoned. -/
def spB : List (List UInt8 × Nat) → Bool
  | [] => true
  | p :: o => o.all (fun q => decide (0 < p.1.length) && decide (0 < q.1.length) && !ltB (q.1.length + p.1.length) (rd q.1 q.2) (rd p.1 p.2)) && spB o

theorem sp_reckon : ∀ {o : List (List UInt8 × Nat)}, spB o = true → Sp o
  | [], _ => List.Pairwise.nil
  | p :: o, h => by
    rw [spB, Bool.and_eq_true, List.all_eq_true] at h
    refine List.pairwise_cons.2 ⟨fun q hq => ?_, sp_reckon h.2⟩
    have := h.1 q hq
    simp only [Bool.and_eq_true, decide_eq_true_eq, Bool.not_eq_true'] at this
    exact ltP_reckon this.1.2 this.1.1 this.2

/-- banana. -/
def banana : List UInt8 := [98, 97, 110, 97, 110, 97]
def bananaW : List (List UInt8) := [[98], [97, 110], [97, 110], [97]]
def annbaa : List UInt8 := [97, 110, 110, 98, 97, 97]

theorem banana_turned : Turned bananaW annbaa := by
  have h := turned_of (ws := bananaW) (o := [([97], 0), ([97, 110], 0), ([97, 110], 0), ([98], 0), ([97, 110], 1), ([97, 110], 1)]) (by decide) (sp_reckon (by decide))
  exact h

theorem banana_good : Good bananaW := by
  refine ⟨fun x hx => ?_, fun i a b ha hb => ?_⟩
  · simp [bananaW] at hx
    rcases hx with rfl | rfl | rfl
    · exact ⟨by decide, fun i h0 h1 => by simp at h1; omega⟩
    · refine ⟨by decide, fun i h0 h1 => ?_⟩
      have : i = 1 := by simp at h1; omega
      subst this
      exact ⟨by decide, by decide⟩
    · exact ⟨by decide, fun i h0 h1 => by simp at h1; omega⟩
  · match i with
    | 0 => simp [bananaW] at ha hb; subst ha; subst hb; decide
    | 1 => simp [bananaW] at ha hb; subst ha; subst hb; decide
    | 2 => simp [bananaW] at ha hb; subst ha; subst hb; decide
    | i + 3 => simp [bananaW] at hb
end Go.Proofs.YtkiindkoiomieaaGreatDoor.Tur
end

section
/-
  Plain mathematics of P6: numbers as bits.
-/
namespace Go.Proofs.YtkiindkoiomieaaGreatDoor

/-- The j lowest binary digits of n, the highest first, as letters. -/
def lowB : Nat → Nat → List UInt8
  | 0, _ => []
  | j + 1, n => UInt8.ofNat (48 + n / 2 ^ j % 2) :: lowB j n

/-- How many binary digits. -/
def dig (n : Nat) : Nat := Lib.bitLen n

/-- One number as bits. -/
def gammaOne (n : Nat) : List UInt8 := List.replicate (dig n - 1) 48 ++ lowB (dig n) n

/-- Numbers as bits. -/
def gammaL (zs : List Int) : List UInt8 := (zs.map fun z => gammaOne z.toNat).flatten

theorem dig_bounds {n : Nat} (h0 : 1 ≤ n) (h1 : n ≤ 1073741824) : 1 ≤ dig n ∧ dig n ≤ 31 ∧ 2 ^ (dig n - 1) ≤ n ∧ n < 2 ^ dig n := by
  obtain ⟨a, b, c⟩ := Lib.bitLenAux_bounds 64 n (by omega) (by omega)
  refine ⟨a, ?_, b, c⟩
  show Lib.bitLenAux 64 n ≤ 31
  have key : ∀ d, 2 ^ (d - 1) ≤ n → d ≤ 31 := fun d hd => by
    by_cases hd2 : d ≤ 31
    · exact hd2
    · have h2 : (2 : Nat) ^ 31 ≤ 2 ^ (d - 1) := Nat.pow_le_pow_right (by omega) (by omega)
      have h3 : (2 : Nat) ^ 31 = 2147483648 := by decide
      omega
  exact key _ b

theorem lowB_length : ∀ j n, (lowB j n).length = j
  | 0, _ => rfl
  | j + 1, n => by simp [lowB, lowB_length j n]

theorem gammaOne_length {n : Nat} (h0 : 1 ≤ n) (h1 : n ≤ 1073741824) : (gammaOne n).length ≤ 61 := by
  have := dig_bounds h0 h1
  simp [gammaOne, lowB_length]
  omega

theorem gammaL_length : ∀ (zs : List Int), (∀ z ∈ zs, 1 ≤ z ∧ z ≤ 1073741824) → (gammaL zs).length ≤ 61 * zs.length
  | [], _ => by simp [gammaL]
  | z :: zs, h => by
    have h1 := gammaOne_length (n := z.toNat) (by have := h z (by simp); omega) (by have := h z (by simp); omega)
    have h2 := gammaL_length zs fun y hy => h y (by simp [hy])
    have e : gammaL (z :: zs) = gammaOne z.toNat ++ gammaL zs := by simp [gammaL]
    rw [e, List.length_append, List.length_cons]
    omega

theorem gammaL_snoc (zs : List Int) (z : Int) : gammaL (zs ++ [z]) = gammaL zs ++ gammaOne z.toNat := by simp [gammaL]

theorem bit_cast (n i : Nat) : ((UInt8.ofNat (48 + n / 2 ^ i % 2)).toNat : Int) = 48 + ((n / 2 ^ i % 2 : Nat) : Int) := by
  have := Nat.mod_lt (n / 2 ^ i) (show 0 < 2 by omega)
  simp
  omega
end Go.Proofs.YtkiindkoiomieaaGreatDoor
end

section
/-
  Plain mathematics of P7: bits written by how likely they are, and read. Nothing of the program.
-/
namespace Go.Proofs.YtkiindkoiomieaaGreatDoor.Co

/-! ### Digits and the numbers that they begin -/
/-- The number of the first k digits; zeros behind the end. -/
def win : Nat → List Nat → Nat
  | 0, _ => 0
  | _ + 1, [] => 0
  | k + 1, d :: r => d * 2 ^ k + win k r

theorem win_nil : ∀ k, win k [] = 0
  | 0 => rfl
  | _ + 1 => rfl

theorem win_zeros : ∀ k n, win k (List.replicate n 0) = 0
  | 0, _ => rfl
  | k + 1, 0 => rfl
  | k + 1, n + 1 => by rw [List.replicate_succ, win, win_zeros k n]; omega

theorem win_lt : ∀ k ds, (∀ d ∈ ds, d < 2) → win k ds < 2 ^ k
  | 0, _, _ => by simp [win]
  | k + 1, [], _ => by rw [win]; exact Nat.pow_pos (by omega)
  | k + 1, d :: r, h => by
    have h1 := win_lt k r fun x hx => h x (by simp [hx])
    have h2 := h d (by simp)
    have e : 2 ^ (k + 1) = 2 * 2 ^ k := by rw [Nat.pow_succ, Nat.mul_comm]
    rw [win, e]
    rcases (show d = 0 ∨ d = 1 by omega) with rfl | rfl <;> omega

/-- One more digit. -/
theorem win_snoc : ∀ k ds, win (k + 1) ds = 2 * win k ds + (ds.drop k).headD 0
  | 0, [] => rfl
  | 0, d :: r => by simp [win]
  | k + 1, [] => by simp [win]
  | k + 1, d :: r => by
    rw [win, win_snoc k r, win, List.drop_succ_cons]
    have e : d * 2 ^ (k + 1) = 2 * (d * 2 ^ k) := by rw [Nat.pow_succ, ← Nat.mul_assoc, Nat.mul_comm]
    omega

/-! ### The part of the numbers that is left -/
abbrev Sp := Nat × Nat
/-- The first digit. -/
def top (n : Nat) : Nat := n / 2147483648
/-- Both begin with the same digit. -/
def settled (s : Sp) : Bool := top s.1 == top s.2
/-- The first digit left out. -/
def dropT (s : Sp) : Sp := (2 * s.1 % 4294967296, 2 * s.2 % 4294967296 + 1)
/-- The last number of the part of a bit 0. -/
def lastZ (s : Sp) (o : Nat × Nat) : Nat := s.1 + (s.2 - s.1) * o.1 / (o.1 + o.2)
/-- The part that is kept. -/
def kept (s : Sp) (b l : Nat) : Sp := if b = 0 then (s.1, l) else (l + 1, s.2)

/-- Digits that are settled, and what is left. -/
def normW : Nat → Sp → List Nat × Sp
  | 0, s => ([], s)
  | f + 1, s => if settled s then (top s.1 :: (normW f (dropT s)).1, (normW f (dropT s)).2) else ([], s)

theorem settled_iff (s : Sp) (h : s.1 ≤ s.2) (h2 : s.2 < 4294967296) : settled s = true ↔ (s.2 < 2147483648 ∨ 2147483648 ≤ s.1) := by
  unfold settled top
  rw [beq_iff_eq]
  omega

theorem drop_width {s : Sp} (h : s.1 ≤ s.2) (h2 : s.2 < 4294967296) (hs : settled s = true) : (dropT s).1 ≤ (dropT s).2 ∧ (dropT s).2 < 4294967296 ∧ (dropT s).2 + 1 - (dropT s).1 = 2 * (s.2 + 1 - s.1) := by
  rw [settled_iff s h h2] at hs
  unfold dropT
  simp only
  omega

theorem norm_open : ∀ (f : Nat) (s : Sp), s.1 ≤ s.2 → s.2 < 4294967296 → 4294967296 < (s.2 + 1 - s.1) * 2 ^ f → (normW f s).2.1 < 2147483648 ∧ 2147483648 ≤ (normW f s).2.2 ∧ (normW f s).2.2 < 4294967296
  | 0, s, h, h2, h3 => by simp at h3; omega
  | f + 1, s, h, h2, h3 => by
    by_cases hs : settled s = true
    · obtain ⟨a, b, c⟩ := drop_width h h2 hs
      have := norm_open f (dropT s) a b (by rw [c, Nat.mul_comm 2, Nat.mul_assoc]; rw [Nat.pow_succ, Nat.mul_comm (2 ^ f) 2] at h3; exact h3)
      rw [normW, if_pos hs]
      exact this
    · rw [normW, if_neg hs]
      have hn : ¬ (s.2 < 2147483648 ∨ 2147483648 ≤ s.1) := fun e => hs ((settled_iff s h h2).2 e)
      simp only
      omega

theorem norm_bits : ∀ (f : Nat) (s : Sp), s.1 < 4294967296 → ∀ d ∈ (normW f s).1, d < 2
  | 0, _, _, d, hd => by simp [normW] at hd
  | f + 1, s, h, d, hd => by
    by_cases hs : settled s = true
    · rw [normW, if_pos hs] at hd
      rcases List.mem_cons.1 hd with e | hd
      · rw [e]
        unfold top
        omega
      · exact norm_bits f (dropT s) (Nat.mod_lt _ (by omega)) d hd
    · rw [normW, if_neg hs] at hd
      simp at hd

theorem norm_length : ∀ (f : Nat) (s : Sp), (normW f s).1.length ≤ f
  | 0, _ => by simp [normW]
  | f + 1, s => by
    rw [normW]
    split
    · rw [List.length_cons]
      have := norm_length f (dropT s)
      omega
    · simp

theorem head_lt {D : List Nat} (h : ∀ d ∈ D, d < 2) (k : Nat) : (D.drop k).headD 0 < 2 := by
  cases e : D.drop k with
  | nil => simp
  | cons a r => exact h a (List.mem_of_mem_drop (by rw [e]; simp : a ∈ D.drop k))

/-- Numbers of what is left, one digit ahead. -/
theorem win_drop {s : Sp} {D : List Nat} (hb : ∀ d ∈ D, d < 2) (h : s.1 ≤ s.2) (h2 : s.2 < 4294967296) (hs : settled s = true) (hD : (dropT s).1 ≤ win 32 D ∧ win 32 D ≤ (dropT s).2) : s.1 ≤ win 32 (top s.1 :: D) ∧ win 32 (top s.1 :: D) ≤ s.2 := by
  rw [settled_iff s h h2] at hs
  have e := win_snoc 31 D
  have hh := head_lt hb 31
  rw [win]
  obtain ⟨l, u⟩ := s
  unfold dropT at hD
  unfold top
  simp only at *
  have e2 : (2 : Nat) ^ 31 = 2147483648 := by decide
  rw [e2]
  generalize win 32 D = W at *
  generalize win 31 D = V at *
  generalize (D.drop 31).headD 0 = x at *
  omega

theorem win_norm : ∀ (f : Nat) (s : Sp) (D : List Nat), (∀ d ∈ D, d < 2) → s.1 ≤ s.2 → s.2 < 4294967296 → (normW f s).2.1 ≤ win 32 D ∧ win 32 D ≤ (normW f s).2.2 → s.1 ≤ win 32 ((normW f s).1 ++ D) ∧ win 32 ((normW f s).1 ++ D) ≤ s.2
  | 0, s, D, _, _, _, hD => hD
  | f + 1, s, D, hb, h, h2, hD => by
    by_cases hs : settled s = true
    · rw [normW, if_pos hs] at hD
      rw [normW, if_pos hs]
      obtain ⟨a, b, _⟩ := drop_width h h2 hs
      have ih := win_norm f (dropT s) D hb a b hD
      refine win_drop ?_ h h2 hs ih
      intro d hd
      rcases List.mem_append.1 hd with hd | hd
      · exact norm_bits f (dropT s) (Nat.lt_of_le_of_lt a b) d hd
      · exact hb d hd
    · rw [normW, if_neg hs] at hD
      rw [normW, if_neg hs]
      exact hD

/-! ### Digits asked for, with zeros behind the end -/
/-- What is left of the digits, and how many zeros may be read yet. -/
abbrev Src := List Nat × Nat
def digit : Src → Option (Nat × Src)
  | (d :: r, z) => some (d, (r, z))
  | ([], z + 1) => some (0, ([], z))
  | ([], 0) => none

/-- The number read, one digit on. -/
def shiftIn (n d : Nat) : Nat := 2 * n % 4294967296 + d

/-- The reader goes along. -/
def normR : Nat → Sp → Nat → Src → Option (Sp × Nat × Src)
  | 0, s, n, q => some (s, n, q)
  | f + 1, s, n, q => if settled s then (match digit q with
    | none => none
    | some (d, q') => normR f (dropT s) (shiftIn n d) q') else some (s, n, q)

/-- The source behind the window of a text. -/
def src (D : List Nat) : Src := (D.drop 32, min 32 D.length)

theorem digit_src (t : Nat) (D : List Nat) : digit (src (t :: D)) = some ((D.drop 31).headD 0, src D) := by
  unfold src
  rw [List.drop_succ_cons]
  cases e : D.drop 31 with
  | nil =>
    have hl : D.length ≤ 31 := by simpa using e
    have e2 : D.drop 32 = [] := List.drop_eq_nil_iff.2 (by omega)
    have e3 : min 32 (t :: D).length = D.length + 1 := by rw [List.length_cons]; omega
    rw [e3, e2, digit, Nat.min_eq_right (by omega)]
    rfl
  | cons a r =>
    have hl : 31 < D.length := by
      rcases Nat.lt_or_ge 31 D.length with h | h
      · exact h
      · rw [List.drop_eq_nil_iff.2 h] at e
        simp at e
    have e2 : D.drop 32 = r := by
      have := List.drop_drop (i := 1) (j := 31) (l := D)
      rw [e] at this
      simpa using this.symm
    rw [digit, e2, List.length_cons, Nat.min_eq_left (by omega), Nat.min_eq_left (by omega)]
    rfl

theorem shift_win (t : Nat) (D : List Nat) (hb : ∀ d ∈ D, d < 2) : shiftIn (win 32 (t :: D)) ((D.drop 31).headD 0) = win 32 D := by
  unfold shiftIn
  rw [win, win_snoc 31 D]
  have h := win_lt 31 D hb
  have e2 : (2 : Nat) ^ 31 = 2147483648 := by decide
  rw [e2] at *
  generalize win 31 D = V at *
  have : 2 * (t * 2147483648 + V) = 4294967296 * t + 2 * V := by omega
  rw [this, Nat.mul_add_mod]
  omega

theorem normR_src : ∀ (f : Nat) (s : Sp) (D : List Nat), (∀ d ∈ D, d < 2) → s.1 ≤ s.2 → s.2 < 4294967296 → normR f s (win 32 ((normW f s).1 ++ D)) (src ((normW f s).1 ++ D)) = some ((normW f s).2, win 32 D, src D)
  | 0, s, D, _, _, _ => rfl
  | f + 1, s, D, hb, h, h2 => by
    by_cases hs : settled s = true
    · obtain ⟨a, b, _⟩ := drop_width h h2 hs
      have hb2 : ∀ d ∈ (normW f (dropT s)).1 ++ D, d < 2 := by
        intro d hd
        rcases List.mem_append.1 hd with hd | hd
        · exact norm_bits f (dropT s) (Nat.lt_of_le_of_lt a b) d hd
        · exact hb d hd
      rw [normW, if_pos hs, normR, if_pos hs, List.cons_append, digit_src]
      simp only
      rw [shift_win _ _ hb2]
      exact normR_src f (dropT s) D hb a b
    · rw [normW, if_neg hs, normR, if_neg hs]
      rfl
end Go.Proofs.YtkiindkoiomieaaGreatDoor.Co
end

section
/-
  Plain mathematics of P7: what is written by how likely it is, is read. Nothing of the program.
-/
namespace Go.Proofs.YtkiindkoiomieaaGreatDoor.Co

/-! ### Where a bit stands, and how likely it is -/
/-- A place: whether the number is how long a run is; the bits ahead of it behind a 1. -/
abbrev Pl := Nat × Nat
/-- The digits among the bits behind the 1. -/
def numAt (a : Nat) : Nat := a - 2 ^ (dig a - 1)
/-- Are these all that the zeros ask for? -/
def whole (a : Nat) : Bool := decide (2 * dig (numAt a) = dig a)
/-- The bits ahead of the bit behind. -/
def stq (q b : Nat) : Nat := if whole (2 * q + b) then 1 else 2 * q + b
/-- The place behind. -/
def bhd (p : Pl) (b : Nat) : Pl := if whole (2 * p.2 + b) then (if numAt (2 * p.2 + b) = 1 ∧ p.1 = 0 then (1, 1) else (0, 1)) else (p.1, 2 * p.2 + b)

theorem bhd_snd (p : Pl) (b : Nat) : (bhd p b).2 = stq p.2 b := by
  unfold bhd stq
  split
  · split <;> rfl
  · rfl

/-- How often it was 0 and 1, each once more, by places; and the place. -/
structure Fo where
  met : Pl → Nat × Nat
  pl : Pl
def fo0 : Fo := ⟨fun _ => (1, 1), (0, 1)⟩
def cnt (o : Nat × Nat) (b : Nat) : Nat × Nat := if b = 0 then (o.1 + 1, o.2) else (o.1, o.2 + 1)
def Fo.odds (f : Fo) : Nat × Nat := f.met f.pl
def Fo.pass (f : Fo) (b : Nat) : Fo := ⟨fun p => if p = f.pl then cnt (f.met p) b else f.met p, bhd f.pl b⟩
/-- Both are met, and no more than so often. -/
def Fo.Ok (f : Fo) (n : Nat) : Prop := ∀ p, 1 ≤ (f.met p).1 ∧ 1 ≤ (f.met p).2 ∧ (f.met p).1 + (f.met p).2 ≤ n + 2

theorem fo0_ok : fo0.Ok 0 := fun _ => ⟨Nat.le_refl _, Nat.le_refl _, Nat.le_refl _⟩
theorem Fo.Ok.mono {f : Fo} {n m : Nat} (h : f.Ok n) (hm : n ≤ m) : f.Ok m := fun p => by have := h p; omega
theorem Fo.Ok.pass {f : Fo} {n : Nat} (h : f.Ok n) (b : Nat) : (f.pass b).Ok (n + 1) := by
  intro p
  have hp := h p
  unfold Fo.pass
  simp only
  by_cases e : p = f.pl
  · rw [if_pos e]
    unfold cnt
    split <;> simp only <;> omega
  · rw [if_neg e]
    omega

/-! ### The writer -/
structure Wr where
  sp : Sp
  fo : Fo
def wr0 : Wr := ⟨(0, 4294967295), fo0⟩
def Wr.open (c : Wr) : Prop := c.sp.1 < 2147483648 ∧ 2147483648 ≤ c.sp.2 ∧ c.sp.2 < 4294967296
/-- What a bit keeps. -/
def Wr.cut (c : Wr) (b : Nat) : Sp := kept c.sp b (lastZ c.sp c.fo.odds)
/-- A bit written: digits. -/
def Wr.out (c : Wr) (b : Nat) : List Nat := (normW 33 (c.cut b)).1
/-- A bit written: what is left. -/
def Wr.step (c : Wr) (b : Nat) : Wr := ⟨(normW 33 (c.cut b)).2, c.fo.pass b⟩
/-- Bits written: digits. -/
def Wr.outs : Wr → List Nat → List Nat
  | _, [] => []
  | c, b :: r => c.out b ++ Wr.outs (c.step b) r
def Wr.steps : Wr → List Nat → Wr
  | c, [] => c
  | c, b :: r => Wr.steps (c.step b) r
/-- The end. -/
def Wr.fin (c : Wr) : List Nat := if 0 < c.sp.1 then [1] else []

theorem last_in {s : Sp} {o : Nat × Nat} (h : s.1 < s.2) (h2 : 1 ≤ o.2) : s.1 ≤ lastZ s o ∧ lastZ s o < s.2 := by
  unfold lastZ
  have : (s.2 - s.1) * o.1 / (o.1 + o.2) < s.2 - s.1 := by
    rw [Nat.div_lt_iff_lt_mul (by omega)]
    exact Nat.mul_lt_mul_of_pos_left (by omega) (by omega)
  generalize (s.2 - s.1) * o.1 / (o.1 + o.2) = x at *
  omega

theorem cut_in {c : Wr} (ho : c.open) {n : Nat} (hf : c.fo.Ok n) (b : Nat) : (c.cut b).1 ≤ (c.cut b).2 ∧ (c.cut b).2 < 4294967296 := by
  obtain ⟨h1, h2, h3⟩ := ho
  have := last_in (s := c.sp) (o := c.fo.odds) (by omega) (hf c.fo.pl).2.1
  unfold Wr.cut kept
  split <;> simp only <;> omega

theorem step_open {c : Wr} (ho : c.open) {n : Nat} (hf : c.fo.Ok n) (b : Nat) : (c.step b).open := by
  obtain ⟨h1, h2⟩ := cut_in ho hf b
  exact norm_open 33 (c.cut b) h1 h2 (by
    have : 1 * 2 ^ 33 ≤ ((c.cut b).2 + 1 - (c.cut b).1) * 2 ^ 33 := Nat.mul_le_mul_right _ (by omega)
    have e : (2 : Nat) ^ 33 = 8589934592 := by decide
    omega)

theorem out_bits {c : Wr} (ho : c.open) {n : Nat} (hf : c.fo.Ok n) (b : Nat) : ∀ d ∈ c.out b, d < 2 :=
  norm_bits 33 (c.cut b) (by have := cut_in ho hf b; omega)

theorem outs_bits : ∀ (l : List Nat) (c : Wr) (n : Nat), c.open → c.fo.Ok n → ∀ d ∈ c.outs l, d < 2
  | [], _, _, _, _, d, hd => by simp [Wr.outs] at hd
  | b :: r, c, n, ho, hf, d, hd => by
    rw [Wr.outs] at hd
    rcases List.mem_append.1 hd with hd | hd
    · exact out_bits ho hf b d hd
    · exact outs_bits r (c.step b) (n + 1) (step_open ho hf b) (hf.pass b) d hd

theorem fin_bits (c : Wr) : ∀ d ∈ c.fin, d < 2 := by
  intro d hd
  unfold Wr.fin at hd
  split at hd
  · simp at hd
    omega
  · simp at hd

theorem steps_open : ∀ (l : List Nat) (c : Wr) (n : Nat), c.open → c.fo.Ok n → (c.steps l).open ∧ (c.steps l).fo.Ok (n + l.length)
  | [], _, _, ho, hf => ⟨ho, hf⟩
  | b :: r, c, n, ho, hf => by
    have := steps_open r (c.step b) (n + 1) (step_open ho hf b) (hf.pass b)
    rw [Wr.steps, List.length_cons]
    exact ⟨this.1, this.2.mono (by omega)⟩

theorem outs_snoc : ∀ (l : List Nat) (c : Wr) (b : Nat), c.outs (l ++ [b]) = c.outs l ++ (c.steps l).out b
  | [], c, b => by simp [Wr.outs, Wr.steps]
  | x :: l, c, b => by rw [List.cons_append, Wr.outs, outs_snoc l (c.step x) b, Wr.outs, Wr.steps, List.append_assoc]
theorem steps_snoc : ∀ (l : List Nat) (c : Wr) (b : Nat), c.steps (l ++ [b]) = (c.steps l).step b
  | [], c, b => rfl
  | x :: l, c, b => by rw [List.cons_append, Wr.steps, steps_snoc l (c.step x) b, Wr.steps]

/-- All the digits of so many bits, and zeros. -/
def Wr.code (c : Wr) (l : List Nat) (z : Nat) : List Nat := c.outs l ++ ((c.steps l).fin ++ List.replicate z 0)

theorem code_bits {c : Wr} (ho : c.open) {n : Nat} (hf : c.fo.Ok n) (l : List Nat) (z : Nat) : ∀ d ∈ c.code l z, d < 2 := by
  intro d hd
  unfold Wr.code at hd
  rcases List.mem_append.1 hd with hd | hd
  · exact outs_bits l c n ho hf d hd
  · rcases List.mem_append.1 hd with hd | hd
    · exact fin_bits _ d hd
    · have := List.eq_of_mem_replicate hd
      omega

theorem code_in : ∀ (l : List Nat) (c : Wr) (n z : Nat), c.open → c.fo.Ok n → c.sp.1 ≤ win 32 (c.code l z) ∧ win 32 (c.code l z) ≤ c.sp.2
  | [], c, n, z, ho, _ => by
    obtain ⟨h1, h2, h3⟩ := ho
    unfold Wr.code Wr.fin
    rw [Wr.outs, Wr.steps, List.nil_append]
    by_cases h0 : 0 < c.sp.1
    · rw [if_pos h0, List.singleton_append, win, win_zeros]
      have e2 : (2 : Nat) ^ 31 = 2147483648 := by decide
      omega
    · rw [if_neg h0, List.nil_append, win_zeros]
      omega
  | b :: r, c, n, z, ho, hf => by
    have ih := code_in r (c.step b) (n + 1) z (step_open ho hf b) (hf.pass b)
    obtain ⟨h1, h2⟩ := cut_in ho hf b
    have e : c.code (b :: r) z = c.out b ++ (c.step b).code r z := by
      unfold Wr.code
      rw [Wr.outs, Wr.steps, List.append_assoc]
    have hw := win_norm 33 (c.cut b) ((c.step b).code r z) (code_bits (step_open ho hf b) (hf.pass b) r z) h1 h2 ih
    rw [e]
    obtain ⟨g1, g2, g3⟩ := ho
    have hl := last_in (s := c.sp) (o := c.fo.odds) (by omega) (hf c.fo.pl).2.1
    have hcut : c.sp.1 ≤ (c.cut b).1 ∧ (c.cut b).2 ≤ c.sp.2 := by
      unfold Wr.cut kept
      split <;> simp only <;> omega
    have hw' : (c.cut b).1 ≤ win 32 (c.out b ++ (c.step b).code r z) ∧ win 32 (c.out b ++ (c.step b).code r z) ≤ (c.cut b).2 := hw
    omega

/-! ### The reader -/
structure Re where
  sp : Sp
  fo : Fo
  num : Nat
  q : Src
/-- Which bit. -/
def Re.bit (r : Re) : Nat := if lastZ r.sp r.fo.odds < r.num then 1 else 0
/-- A bit read. -/
def Re.next (r : Re) : Option (Nat × Re) := match normR 33 (kept r.sp r.bit (lastZ r.sp r.fo.odds)) r.num r.q with
  | none => none
  | some (s, n, q) => some (r.bit, ⟨s, r.fo.pass r.bit, n, q⟩)

/-- The reader of what a writer writes. -/
def Wr.reader (c : Wr) (D : List Nat) : Re := ⟨c.sp, c.fo, win 32 D, src D⟩

theorem next_code (c : Wr) (n b : Nat) (r : List Nat) (z : Nat) (hb : b < 2) (ho : c.open) (hf : c.fo.Ok n) : (c.reader (c.code (b :: r) z)).next = some (b, (c.step b).reader ((c.step b).code r z)) := by
  obtain ⟨h1, h2⟩ := cut_in ho hf b
  have ih := code_in r (c.step b) (n + 1) z (step_open ho hf b) (hf.pass b)
  have hbits := code_bits (step_open ho hf b) (hf.pass b) r z
  have hw := win_norm 33 (c.cut b) ((c.step b).code r z) hbits h1 h2 ih
  have e : c.code (b :: r) z = (normW 33 (c.cut b)).1 ++ (c.step b).code r z := by
    unfold Wr.code
    rw [Wr.outs, Wr.steps, List.append_assoc]
    rfl
  have hbit : (c.reader (c.code (b :: r) z)).bit = b := by
    unfold Re.bit Wr.reader
    simp only
    rw [e]
    unfold Wr.cut kept at hw
    rcases (show b = 0 ∨ b = 1 by omega) with rfl | rfl
    · rw [if_pos rfl] at hw
      rw [if_neg]
      have := hw.2
      simp only at this
      exact Nat.not_lt.2 this
    · rw [if_neg (by omega)] at hw
      rw [if_pos]
      have := hw.1
      simp only at this
      exact this
  have hR := normR_src 33 (c.cut b) ((c.step b).code r z) hbits h1 h2
  rw [← e] at hR
  unfold Re.next
  rw [hbit]
  have e2 : kept (c.reader (c.code (b :: r) z)).sp b (lastZ (c.reader (c.code (b :: r) z)).sp (c.reader (c.code (b :: r) z)).fo.odds) = c.cut b := rfl
  have e3 : (c.reader (c.code (b :: r) z)).num = win 32 (c.code (b :: r) z) := rfl
  have e4 : (c.reader (c.code (b :: r) z)).q = src (c.code (b :: r) z) := rfl
  rw [e2, e3, e4, hR]
  rfl
end Go.Proofs.YtkiindkoiomieaaGreatDoor.Co
end

