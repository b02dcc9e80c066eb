import Derived.Test.YtkiindkoiomieaaGreatDoorJ04
import Derived.Test.YtkiindkoiomieaaGreatDoorJ05
section
/-
  P4: the walk of nextPlaces.
-/
namespace Go.Proofs.YtkiindkoiomieaaGreatDoor
open Go.RowKit Go.Lib

/-- Numbers, one behind the other. -/
def numV (l : List Nat) : List Value := l.map fun x : Nat => Value.int .i64 (x : Int)

theorem numV_length (l : List Nat) : (numV l).length = l.length := by simp [numV]
theorem numV_snoc (l : List Nat) (x : Nat) : numV (l ++ [x]) = numV l ++ [.int .i64 (x : Int)] := by simp [numV]

set_option maxHeartbeats 2000000 in
set_option maxRecDepth 100000 in
theorem next_places (s : ByteArray) (w : World) (hs : s.size ≤ 300) :
    Calls Tryz.prog 59 #[.string s] w fun e w' => ∃ (v : Value) (ws : List (List UInt8)), e = .returned v ∧ Duv.Good ws ∧ ws.flatten = s.data.toList ∧ w'.ownsRow w.heap.size 3 1 v s.size (numV (Tur.nxt ws 0)) ∧ Below w.heap.size w w' := by
  obtain ⟨i0, hi, hz0, hz1, hz2⟩ := info_parts Tryz.info3
  go_enter Tryz.func59, Tryz.ntmps59
  go_wp2_with fail
  go_at_call 30
  refine (cut_any s w hs).mono ?_
  rintro e w1 ⟨v, ws, rfl, hrow, hb1, hg, hf⟩
  have hsum : ws.flatten.length = s.size := by rw [hf, ← Lib.size_eq]
  have hfew : ws.length ≤ 300 := by
    have := good_few hg
    omega
  have HG := hide hg
  have HF := hide hf
  have HS := hide hsum
  clear hg hf hsum
  rcases cells_of_owns hrow rfl with ⟨rfl, hws⟩ | ⟨g, cap, rfl, hcell⟩
  · subst hws
    have hs0 : s.size = 0 := by have := HS.out; simpa using this.symm
    go_wp2
    refine wp_loop_rounds 1 ?_
    rw [rounds_succ]
    go_wp2
    go_ret
    refine ⟨_, [], rfl, HG.out, HF.out, ?_, hb1⟩
    rw [hs0]
    exact World.ownsRow_nil _ _ _ _
  · have HC := hide hcell
    clear hcell hrow
    go_wp2
    go_loopw [3, 11] (fun nv kv wr => ∃ k : Nat, k ≤ ws.length ∧ kv = .int .i64 k ∧ wr.ownsRow w1.heap.size 3 1 nv (ws.take k).flatten.length (numV (Tur.nxt (ws.take k) 0)) ∧ Below w.heap.size w wr ∧ Below w1.heap.size w1 wr) (fun _ kv _ => ws.length - (intOf kv).toNat)
    case atStart => exact ⟨0, by omega, rfl, World.ownsRow_nil _ _ _ _, hb1, Below.refl _ _⟩
    case round =>
      obtain ⟨k, hk, rfl, hro, hbx, hbv⟩ := hrel
      by_cases hlt : k < ws.length
      · obtain ⟨u, hu⟩ : ∃ u, ws[k]? = some u := ⟨_, List.getElem?_eq_getElem hlt⟩
        have hc0 := HC.out k u hu
        unfold strV at hc0
        have hfw := places_few hu
        rw [HS.out, places_length] at hfw
        obtain ⟨U, hU⟩ : ∃ U : ByteArray, U = ⟨u.toArray⟩ := ⟨_, rfl⟩
        have hUl : U.size = u.length := by rw [hU, strV_size]
        have hg1 : g < w1.heap.size := cell_lt hc0
        have hu0 : 0 < u.length := (HG.out.1 u (List.mem_of_getElem? hu)).1
        rw [← hU] at hc0
        rw [← hUl] at hfw hu0
        have hcu := (hbv.cell (p := ⟨g, k, none⟩) hg1).trans hc0
        obtain ⟨st, hst⟩ : ∃ st, st = (ws.take k).flatten.length := ⟨_, rfl⟩
        rw [← hst] at hfw hro
        obtain ⟨ao, capo, rfl⟩ := owns_slice hro
        obtain ⟨N0, hN0⟩ : ∃ N0, N0 = Tur.nxt (ws.take k) 0 := ⟨_, rfl⟩
        rw [← hN0] at hro
        have HU := hide hu
        have HUL := hide hUl
        have HST := hide hst
        have HN0 := hide hN0
        have hz : ¬ ((U.size : Int) = 0) := by omega
        clear hu hU hUl hc0 hst hN0
        go_wp2
        go_loopw [3, 19] (fun nv iv wr => ∃ i : Nat, i ≤ U.size ∧ iv = .int .i64 i ∧ wr.ownsRow w1.heap.size 3 1 nv (st + i) (numV (N0 ++ (List.range i).map fun x => st + (x + 1) % U.size)) ∧ Below w.heap.size w wr ∧ Below w1.heap.size w1 wr) (fun _ iv _ => U.size - (intOf iv).toNat)
        case atStart => exact ⟨0, by omega, rfl, by simpa using hro, hbx, hbv⟩
        case round =>
          clear hro hbx hbv hcu
          obtain ⟨i, hi1, rfl, hro, hbx, hbv⟩ := hrel
          by_cases hli : i < U.size
          · obtain ⟨r, hr⟩ : ∃ r, r = (i + 1) % U.size := ⟨_, rfl⟩
            have hrl : r < U.size := by rw [hr]; exact Nat.mod_lt _ (by omega)
            have hm1 : ((i : Int) + 1) % (U.size : Int) = (r : Int) := by rw [hr]; simp
            have hm2 : ((i : Int) + 1).tmod (U.size : Int) = (r : Int) := by rw [hr]; exact (Int.ofNat_tmod (i + 1) U.size).symm
            have HR := hide hr
            clear hr
            go_wp2_with (at_builtin; refine wpList_append_own _ rfl _ _ 23 rfl w1.heap.size 3 i0 (.int .i64 0) 1 8 Tryz.underlying23 hi hz0 hz1 hz2 rfl (by decide) _ _ _ rfl (hro.alloc _) ⟨wr.heap.size, 0, none⟩ 1 1 [.int .i64 ((st : Int) + (r : Int))] rfl rfl (cell_one_new _ _ _) (fun x hx => by simp at hx; subst hx; rfl) (by unfold maxLen; omega) (by omega) (Nat.le_trans hbv.size (World.grownBy_alloc _ _ none).size) ?_; intro v' w3 hown hgrow hnil)
            go_roundw
            case rel =>
              refine ⟨i + 1, by omega, by go_num, ?_, (hbx.alloc hbx.size _).grown hgrow (Nat.le_trans hbx.size (World.grownBy_alloc _ _ none).size) (fun j hj => Nat.le_trans hb1.size (hro.lt j hj).1), (hbv.alloc hbv.size _).grown hgrow (Nat.le_trans hbv.size (World.grownBy_alloc _ _ none).size) (fun j hj => (hro.lt j hj).1)⟩
              rw [List.range_succ, List.map_append, List.map_cons, List.map_nil, ← List.append_assoc, numV_snoc, ← HR.out, Int.natCast_add]
              exact hown
            case measure => simp [intOf]; omega
          · have hiU : i = U.size := by omega
            subst hiU
            go_wp2
            go_roundw
            case rel =>
              refine ⟨k + 1, by omega, by go_num, ?_, hbx, hbv⟩
              have e1 : (ws.take (k + 1)).flatten.length = st + U.size := by
                rw [Tur.take_next HU.out, List.flatten_append, List.length_append, ← HST.out, HUL.out]
                simp
              have e2 : Tur.nxt (ws.take (k + 1)) 0 = N0 ++ (List.range U.size).map fun x => st + (x + 1) % U.size := by
                rw [Tur.take_next HU.out, Tur.nxt_snoc, ← HN0.out, ← HST.out, HUL.out, Nat.zero_add]
              rw [e1, e2]
              exact hro
            case measure => simp [intOf]; omega
      · have hkw : k = ws.length := by omega
        go_wp2
        go_ret
        refine ⟨_, ws, rfl, HG.out, HF.out, ?_, hbx⟩
        rw [hkw, List.take_length, HS.out] at hro
        exact owns_lower hro hb1.size
end Go.Proofs.YtkiindkoiomieaaGreatDoor
end

section
/-
  Plain mathematics of P4: the cycles, gone through one by one. Nothing of the program.
-/
namespace Go.Proofs.YtkiindkoiomieaaGreatDoor.Tur
open Duv

/-- All rows of these cycles. -/
def allRows (p : Nat → Nat) (cs : List (Nat × Nat)) : List Nat := cs.flatMap (rows p)

theorem allRows_cons (p : Nat → Nat) (c : Nat × Nat) (cs : List (Nat × Nat)) : allRows p (c :: cs) = rows p c ++ allRows p cs := by simp [allRows]

theorem mem_rows {p : Nat → Nat} {f j r : Nat} : r ∈ rows p (f, j) ↔ ∃ i, i < j ∧ it p i f = r := by
  simp [rows]

theorem rows_next (p : Nat → Nat) (f j : Nat) : rows p (f, j + 1) = rows p (f, j) ++ [it p j f] := by
  simp [rows, List.range_succ]

theorem rows_length (p : Nat → Nat) (f j : Nat) : (rows p (f, j)).length = j := by simp [rows]

theorem word_next (t : List UInt8) (p : Nat → Nat) (f j : Nat) : word t p (f, j + 1) = (t[it p j f]?.getD 0) :: word t p (f, j) := by
  unfold word
  simp only
  rw [List.range_succ_eq_map, List.map_cons, List.map_map]
  congr 1
  apply List.map_congr_left
  intro i _
  simp only [Function.comp_apply]
  congr 3
  omega

/-- Rows below f have been met, in these cycles. -/
structure Met (t : List UInt8) (p : Nat → Nat) (cs : List (Nat × Nat)) (f : Nat) : Prop where
  cyc : ∀ c ∈ cs, Cyc t p c
  down : cs.Pairwise fun c d => d.1 < c.1
  nodup : (allRows p cs).Nodup
  all : ∀ r, r < f → r ∈ allRows p cs
  lt : ∀ c ∈ cs, c.1 < f

theorem Met.start (t : List UInt8) (p : Nat → Nat) : Met t p [] 0 :=
  ⟨by simp, List.Pairwise.nil, by simp [allRows], fun r h => by omega, by simp⟩

theorem Met.small {t : List UInt8} {p : Nat → Nat} (hA : Ahead t p) {cs : List (Nat × Nat)} {f : Nat} (h : Met t p cs f) {r : Nat} (hr : r ∈ allRows p cs) : r < t.length := by
  obtain ⟨c, hc, hr⟩ := List.mem_flatMap.1 hr
  obtain ⟨j, _, rfl⟩ := List.mem_map.1 hr
  exact hA.it_lt (h.cyc c hc).lt _

/-- j steps from f on. -/
structure Steps (t : List UInt8) (p : Nat → Nat) (cs : List (Nat × Nat)) (f j : Nat) : Prop where
  nodup : (rows p (f, j) ++ allRows p cs).Nodup
  lt : f < t.length

theorem Steps.start {t : List UInt8} {p : Nat → Nat} {cs : List (Nat × Nat)} {f : Nat} (h : Met t p cs f) (hf : f < t.length) : Steps t p cs f 0 :=
  ⟨by simpa [rows] using h.nodup, hf⟩

theorem Steps.few {t : List UInt8} {p : Nat → Nat} (hA : Ahead t p) {cs : List (Nat × Nat)} {f j : Nat} (hm : Met t p cs f) (h : Steps t p cs f j) : j + (allRows p cs).length ≤ t.length := by
  have := List.Nodup.length_le_of_subset (l₂ := List.range t.length) h.nodup (fun r hr => by
    rw [List.mem_range]
    rcases List.mem_append.1 hr with hr | hr
    · obtain ⟨i, _, rfl⟩ := mem_rows.1 hr
      exact hA.it_lt h.lt _
    · exact hm.small hA hr)
  rw [List.length_append, rows_length, List.length_range] at this
  exact this

theorem Steps.next {t : List UInt8} {p : Nat → Nat} {cs : List (Nat × Nat)} {f j : Nat} (h : Steps t p cs f j) (hn : it p j f ∉ rows p (f, j) ++ allRows p cs) : Steps t p cs f (j + 1) := by
  refine ⟨?_, h.lt⟩
  rw [rows_next, List.append_assoc]
  have h1 := h.nodup
  rw [List.nodup_append] at h1 ⊢
  obtain ⟨a, b, c⟩ := h1
  refine ⟨a, ?_, fun x hx y hy => ?_⟩
  · rw [List.singleton_append, List.nodup_cons]
    exact ⟨fun h' => hn (List.mem_append.2 (.inr h')), b⟩
  · rw [List.singleton_append] at hy
    rcases List.mem_cons.1 hy with rfl | hy
    · intro e
      rw [e] at hx
      exact hn (List.mem_append.2 (.inl hx))
    · exact c x hx y hy

theorem Steps.close {t : List UInt8} {p : Nat → Nat} (hA : Ahead t p) {cs : List (Nat × Nat)} {f j : Nat} (hm : Met t p cs f) (h : Steps t p cs f j) (hj : 0 < j) (hmem : it p j f ∈ rows p (f, j) ++ allRows p cs) : it p j f = f := by
  obtain ⟨m, rfl⟩ : ∃ m, j = m + 1 := ⟨j - 1, by omega⟩
  have hlast : it p m f ∈ rows p (f, m + 1) := mem_rows.2 ⟨m, by omega, rfl⟩
  have hnd := h.nodup
  rw [List.nodup_append] at hnd
  rcases List.mem_append.1 hmem with hr | hr
  · obtain ⟨i, hi, e⟩ := mem_rows.1 hr
    cases i with
    | zero => exact e.symm
    | succ i =>
      exfalso
      have e' : it p i f = it p m f := hA.inj (hA.it_lt h.lt _) (hA.it_lt h.lt _) e
      have h1 := hnd.1
      unfold rows at h1
      rw [List.nodup_iff_pairwise_ne, List.pairwise_map] at h1
      have := List.pairwise_iff_getElem.1 h1 i m (by simp; omega) (by simp) (by omega)
      simp only [List.getElem_range] at this
      exact this e'
  · exfalso
    obtain ⟨c, hc, hr'⟩ := List.mem_flatMap.1 hr
    obtain ⟨c1, c2⟩ := c
    obtain ⟨i, hi, e⟩ := mem_rows.1 hr'
    have hcy := hm.cyc _ hc
    have hpos : 0 < c2 := hcy.pos
    have hlt : c1 < t.length := hcy.lt
    have hround : it p c2 c1 = c1 := hcy.round
    have key : ∀ k, k < c2 → p (it p k c1) = p (it p m f) → False := fun k hk e2 => by
      have e3 := hA.inj (hA.it_lt hlt _) (hA.it_lt h.lt _) e2
      exact hnd.2.2 _ hlast _ (List.mem_flatMap.2 ⟨_, hc, mem_rows.2 ⟨k, hk, e3⟩⟩) rfl
    cases i with
    | zero =>
      obtain ⟨k, rfl⟩ : ∃ k, c2 = k + 1 := ⟨c2 - 1, by omega⟩
      refine key k (by omega) ?_
      have e4 : c1 = it p (m + 1) f := e
      rw [← hround] at e4
      exact e4
    | succ i => exact key i (by omega) e

theorem Met.again {t : List UInt8} {p : Nat → Nat} {cs : List (Nat × Nat)} {f : Nat} (h : Met t p cs f) (hf : f ∈ allRows p cs) : Met t p cs (f + 1) :=
  ⟨h.cyc, h.down, h.nodup, fun r hr => by
    by_cases e : r = f
    · subst e; exact hf
    · exact h.all r (by omega), fun c hc => Nat.lt_succ_of_lt (h.lt c hc)⟩

theorem Met.more {t : List UInt8} {p : Nat → Nat} {cs : List (Nat × Nat)} {f j : Nat} (hm : Met t p cs f) (h : Steps t p cs f j) (hj : 0 < j) (hr : it p j f = f) : Met t p ((f, j) :: cs) (f + 1) := by
  have hnd := h.nodup
  rw [List.nodup_append] at hnd
  have hcyc : Cyc t p (f, j) := by
    refine ⟨hj, h.lt, hr, fun i hi0 hi1 => ?_⟩
    have hin : it p i f ∈ rows p (f, j) := mem_rows.2 ⟨i, hi1, rfl⟩
    rcases Nat.lt_trichotomy f (it p i f) with e | e | e
    · exact e
    · exfalso
      have h1 := hnd.1
      unfold rows at h1
      rw [List.nodup_iff_pairwise_ne, List.pairwise_map] at h1
      have := List.pairwise_iff_getElem.1 h1 0 i (by simp; omega) (by simpa using hi1) hi0
      simp only [List.getElem_range] at this
      exact this e
    · exfalso
      exact hnd.2.2 _ hin _ (hm.all _ e) rfl
  refine ⟨fun c hc => ?_, ?_, ?_, fun r hr => ?_, fun c hc => ?_⟩
  · rcases List.mem_cons.1 hc with rfl | hc
    · exact hcyc
    · exact hm.cyc c hc
  · rw [List.pairwise_cons]
    exact ⟨fun c hc => hm.lt c hc, hm.down⟩
  · rw [allRows_cons]
    exact h.nodup
  · rw [allRows_cons]
    by_cases e : r = f
    · subst e
      exact List.mem_append.2 (.inl (mem_rows.2 ⟨0, hj, rfl⟩))
    · exact List.mem_append.2 (.inr (hm.all r (by omega)))
  · rcases List.mem_cons.1 hc with rfl | hc
    · exact Nat.lt_succ_self _
    · exact Nat.lt_succ_of_lt (hm.lt c hc)

theorem Met.done {t : List UInt8} {p : Nat → Nat} (hA : Ahead t p) {cs : List (Nat × Nat)} (h : Met t p cs t.length) : All t p cs := by
  refine ⟨h.cyc, h.down, (List.perm_ext_iff_of_nodup h.nodup List.nodup_range).2 fun r => ?_⟩
  rw [List.mem_range]
  exact ⟨fun hr => h.small hA hr, fun hr => h.all r hr⟩

theorem words_length (t : List UInt8) (p : Nat → Nat) : ∀ cs : List (Nat × Nat), (cs.map (word t p)).flatten.length = (allRows p cs).length
  | [] => rfl
  | c :: cs => by
    rw [List.map_cons, List.flatten_cons, List.length_append, word_length, allRows_cons, List.length_append, words_length t p cs]
    simp [rows]
end Go.Proofs.YtkiindkoiomieaaGreatDoor.Tur
end

section
/-
  P4: strings.Builder's Write of bytes.
-/
namespace Go.Proofs.YtkiindkoiomieaaGreatDoor
open Go.RowKit Go.Lib

theorem fresh_one (w : World) : Lib.IsBuilder 83 5 w.heap.size w.heap.size (Lib.byteCells []) (w.alloc (.cells #[.pointer none, .slice none 0 0] 83)) := by
  left
  exact ⟨Nat.le_refl _, .slice none 0 0, heap_alloc_new _ _, World.ownsRow_nil _ _ _ _, by simp [Value.ownBlock]⟩

set_option maxHeartbeats 1000000 in
set_option maxRecDepth 100000 in
theorem writeAll_any (B b g cap : Nat) (l : List UInt8) (w : World) (h : Lib.IsBuilder 83 5 B b [] w) (hlen : l.length ≤ 500) (hBw : B ≤ w.heap.size) (hg : g < B) (hc : ∀ j u, (Lib.byteCells l)[j]? = some u → w.cell? ⟨g, j, none⟩ = some u) :
    Calls Tryz.prog 93 #[.pointer (some ⟨b, 0, none⟩), .slice (some ⟨g, 0, none⟩) l.length cap] w fun e w' => e = .returned (.tuple #[.int .i64 (l.length : Int), .nilIface]) ∧ Lib.IsBuilder 83 5 B b (Lib.byteCells l) w' ∧ Below B w w' := by
  obtain ⟨i0, hi, hz0, hz1, hz2⟩ := info_parts Tryz.info5
  have HC := hide hc
  clear hc
  go_enter Tryz.func93, Tryz.ntmps93
  go_wp2_with (go_at_call 98; refine (check_any B b [] _ h).mono ?_)
  rintro e w1 ⟨rfl, h1, hb1⟩
  obtain ⟨hB, v, hbk, hown, hne⟩ := h1
  have c1 : w1.cell? ⟨b, 1, none⟩ = some v := by rw [Lib.cell_of_heap hbk]; rfl
  have hs1 := hb1.size
  go_wp2_with (at_builtin; refine wpList_append_own _ rfl _ _ 81 rfl B 5 i0 (.int .u8 0) 1 1 Tryz.underlying81 hi hz0 hz1 hz2 rfl (by decide) _ _ _ rfl hown ⟨g, 0, none⟩ l.length cap (Lib.byteCells l) rfl ?q1 ?q2 ?q3 (by simp; unfold maxLen; omega) (by simp; omega) (by omega) ?_)
  case q1 => rw [Lib.byteCells_length, Nat.mul_one]
  case q2 =>
    intro j u hj
    rw [Addr.add_lit, Nat.zero_add]
    exact (hb1.cell (p := ⟨g, j, none⟩) hg).trans (HC.out j u hj)
  case q3 =>
    intro u hu
    simp only [Lib.byteCells, List.mem_map] at hu
    obtain ⟨x, _, rfl⟩ := hu
    rfl
  intro v' w2 hown' hgrow _
  have hlt : b < w1.heap.size := heap_lt0 hbk
  have hb2 : w2.heap[b]? = some (.cells #[.pointer (some ⟨b, 0, none⟩), v] 83 (0, 0)) := by
    rw [hgrow.block b hlt (fun e => hne e.symm)]
    exact hbk
  have d1 : w2.cell? ⟨b, 1, none⟩ = some v := by rw [Lib.cell_of_heap hb2]; rfl
  have f1 : w2.frozen? ⟨b, 1, none⟩ = false := Lib.frozen_of_heap hb2 1
  obtain ⟨a', cap', rfl⟩ := owns_slice hown'
  go_wp2
  go_ret2
  refine ⟨rfl, .inr ?_, ?_⟩
  · exact Lib.BuilderAt.put hB hb2 (bs' := Lib.byteCells l) (by simpa [Lib.byteCells_length] using hown') (by decide)
  · exact (hb1.grown hgrow (by omega) (fun k hk => (hown.lt k hk).1)).setCell (p := ⟨b, 1, none⟩) hB _
end Go.Proofs.YtkiindkoiomieaaGreatDoor
end

section
/-
  P4: the walk of turnedBack.
-/
namespace Go.Proofs.YtkiindkoiomieaaGreatDoor
open Go.RowKit Go.Lib

/-- Which rows are met. -/
def MetL (n : Nat) (O : List Nat) (ml : List Bool) : Prop := ml.length = n ∧ ∀ r, r < n → ml[r]? = some (decide (r ∈ O))
/-- What stands at the end of the text. -/
def TextL (n e : Nat) (W ty : List UInt8) : Prop := ty.length = n ∧ ty.drop e = W

theorem MetL.start (n : Nat) : MetL n [] (List.replicate n false) := ⟨by simp, fun r hr => by simp [hr]⟩
theorem MetL.next {n r : Nat} {O O' : List Nat} {ml : List Bool} (h : MetL n O ml) (hO : ∀ x, x ∈ O' ↔ x = r ∨ x ∈ O) : MetL n O' (ml.set r true) := by
  refine ⟨by rw [List.length_set]; exact h.1, fun x hx => ?_⟩
  rw [List.getElem?_set]
  by_cases e : r = x
  · subst e
    rw [if_pos rfl, if_pos (by rw [h.1]; exact hx)]
    have : r ∈ O' := (hO r).2 (.inl rfl)
    simp [this]
  · rw [if_neg e, h.2 x hx]
    have : x ∈ O' ↔ x ∈ O := by
      rw [hO]
      exact ⟨fun h => h.resolve_left (fun e' => e e'.symm), .inr⟩
    simp [this]
theorem TextL.start (n : Nat) : TextL n n [] (List.replicate n 0) := ⟨by simp, by simp⟩
theorem TextL.next {n e : Nat} {W ty : List UInt8} (h : TextL n (e + 1) W ty) (he : e < n) (c : UInt8) : TextL n e (c :: W) (ty.set e c) := by
  obtain ⟨h1, h2⟩ := h
  refine ⟨by rw [List.length_set]; exact h1, ?_⟩
  have hl : e < (ty.set e c).length := by rw [List.length_set, h1]; exact he
  rw [List.drop_eq_getElem_cons hl, List.drop_set_of_lt (by omega), h2, List.getElem_set_self]

theorem nums_cell {w : World} {g n : Nat} {p : Nat → Nat} (h : NumsAt w g ((List.range n).map p)) {r : Nat} (hr : r < n) : w.cell? ⟨g, r, none⟩ = some (.int .i64 (p r : Int)) :=
  cell_here h (cellsN_at (by simp [hr]))

set_option maxHeartbeats 2000000 in
set_option maxRecDepth 100000 in
theorem turnedBack_any (s : ByteArray) (w : World) (hs : s.size ≤ 500) :
    Calls Tryz.prog 58 #[.string s] w fun e w' => ∃ (b : List UInt8) (ws : List (List UInt8)), e = .returned (strV b) ∧ Duv.Good ws ∧ ws.flatten = b ∧ Tur.Turned ws s.data.toList ∧ Below w.heap.size w w' := by
  have hmy := make_bytes s.size hs
  have hmt := make_truths s.size hs
  have cR := rows_any s w hs
  obtain ⟨t, ht⟩ : ∃ t, t = s.data.toList := ⟨_, rfl⟩
  have hts : t.length = s.size := by rw [ht, ← Lib.size_eq]
  rw [← ht] at cR ⊢
  have CR := hide cR
  have HTT := hide ht
  have HTS := hide hts
  clear cR ht hts
  go_enter Tryz.func58, Tryz.ntmps58
  go_wp2_with (go_at_call 92; refine CR.out.mono ?_; rintro e w1 ⟨ga, p, rfl, hN, hga, hb1, hA⟩)
  have HN := hide hN
  have HA := hide hA
  have hga1 := heap_lt0 hN
  clear hN hA CR
  go_wp2
  clear hmy hmt
  go_loopw [6, 22] (fun ev kv wr => ∃ (f e : Nat) (cs : List (Nat × Nat)) (ml : List Bool) (ty : List UInt8), f ≤ s.size ∧ kv = .int .i64 f ∧ ev = .int .i64 e ∧ Hid (e + (Tur.allRows p cs).length = s.size) ∧ Hid (wr.heap[w1.heap.size]? = some (.cells (cellsY ty) 5 (0, 0))) ∧ Hid (wr.heap[w1.heap.size + 1]? = some (.cells (cellsT ml) 4 (0, 0))) ∧ Hid (Tur.Met t p cs f) ∧ Hid (MetL s.size (Tur.allRows p cs) ml) ∧ Hid (TextL s.size e (cs.map (Tur.word t p)).flatten ty) ∧ Below w.heap.size w wr ∧ Below w1.heap.size w1 wr) (fun _ kv _ => s.size - (intOf kv).toNat)
  case atStart =>
    refine ⟨0, s.size, [], _, _, by omega, rfl, rfl, hide rfl, ?_, ?_, hide (Tur.Met.start _ _), hide (MetL.start _), hide (TextL.start _), (hb1.alloc hb1.size _).alloc (by have := hb1.size; simp; omega) _, ((Below.refl _ _).alloc (Nat.le_refl _) _).alloc (by simp) _⟩
    · apply hide
      rw [Lib.alloc_old _ _ _ (by simp)]
      exact heap_alloc_new _ _
    · apply hide
      have := heap_alloc_new (w1.alloc (.cells (cellsY (List.replicate s.size 0)) 5)) (.cells (cellsT (List.replicate s.size false)) 4)
      simpa using this
  case round =>
    obtain ⟨f, e, cs, ml, ty, hf, rfl, rfl, HE, HY, HT, HM, HML, HTX, hbx, hbv⟩ := hrel
    by_cases hlt : f < s.size
    · have hft : f < t.length := by rw [HTS.out]; exact hlt
      have HS0 := hide (Tur.Steps.start HM.out hft)
      go_wp2
      go_loopw [6, 8] (fun ev rv wr => ∃ (j e : Nat) (ml : List Bool) (ty : List UInt8), ev = .int .i64 e ∧ rv = .int .i64 (Tur.it p j f : Nat) ∧ Hid (e + (j + (Tur.allRows p cs).length) = s.size) ∧ e ≤ s.size ∧ Hid (wr.heap[w1.heap.size]? = some (.cells (cellsY ty) 5 (0, 0))) ∧ Hid (wr.heap[w1.heap.size + 1]? = some (.cells (cellsT ml) 4 (0, 0))) ∧ Hid (Tur.Steps t p cs f j) ∧ Hid (MetL s.size (Tur.rows p (f, j) ++ Tur.allRows p cs) ml) ∧ Hid (TextL s.size e (Tur.word t p (f, j) ++ (cs.map (Tur.word t p)).flatten) ty) ∧ Below w.heap.size w wr ∧ Below w1.heap.size w1 wr) (fun ev _ _ => (intOf ev).toNat)
      case atStart => exact ⟨0, e, ml, ty, rfl, rfl, hide (by have := HE.out; omega), by have := HE.out; omega, HY, HT, HS0, HML, HTX, hbx, hbv⟩
      case round =>
        clear hbx hbv HY HT HML HTX HE HS0
        obtain ⟨j, e, ml, ty, rfl, rfl, HE, hes, HY, HT, HS, HML, HTX, hbx, hbv⟩ := hrel
        have hrn : Tur.it p j f < s.size := by rw [← HTS.out]; exact HA.out.it_lt hft j
        obtain ⟨r, hr⟩ : ∃ r, r = Tur.it p j f := ⟨_, rfl⟩
        rw [← hr] at hrn ⊢
        have hmr := HML.out.2 r hrn
        have cm := cell_here HT.out (cellsT_at hmr)
        have fm := frozen_of_row _ (w1.heap.size + 1) r _ _ HT.out
        have cp := (hbv.cell (p := ⟨ga, r, none⟩) hga1).trans (nums_cell HN.out hrn)
        by_cases hin : r ∈ Tur.rows p (f, j) ++ Tur.allRows p cs
        · rw [decide_eq_true hin] at cm
          have HR := hide hr
          clear hr hmr
          go_wp2
          go_roundw
          case rel =>
            by_cases hj : j = 0
            · subst hj
              have hfO : f ∈ Tur.allRows p cs := by
                have := hin
                rw [HR.out] at this
                simpa [Tur.rows, Tur.it] using this
              exact ⟨f + 1, e, cs, ml, ty, by omega, by go_num, rfl, hide (by have := HE.out; omega), HY, HT, hide (HM.out.again hfO), HML, HTX, hbx, hbv⟩
            · have hcl := HS.out.close HA.out HM.out (by omega) (by rw [← HR.out]; exact hin)
              refine ⟨f + 1, e, (f, j) :: cs, ml, ty, by omega, by go_num, rfl, ?_, HY, HT, hide (HM.out.more HS.out (by omega) hcl), ?_, ?_, hbx, hbv⟩
              · apply hide
                rw [Tur.allRows_cons, List.length_append, Tur.rows_length]
                exact HE.out
              · rw [Tur.allRows_cons]
                exact HML
              · rw [List.map_cons, List.flatten_cons]
                exact HTX
          case measure => simp [intOf]; omega
        · rw [decide_eq_false hin] at cm
          have hst := HS.out.next (by rw [← hr]; exact hin)
          have hfw := hst.few HA.out HM.out
          rw [HTS.out] at hfw
          have hE := HE.out
          obtain ⟨e', rfl⟩ : ∃ e', e = e' + 1 := ⟨e - 1, by omega⟩
          have HST := hide hst
          have hyl : e' < ty.length := by rw [HTX.out.1]; omega
          obtain ⟨y0, hy0⟩ : ∃ y0, ty[e']? = some y0 := ⟨_, List.getElem?_eq_getElem hyl⟩
          have cy := cell_here HY.out (cellsY_at hy0)
          have fy := frozen_of_row _ w1.heap.size e' _ _ HY.out
          have HR := hide hr
          have HIN := hide hin
          have n1 : ga ≠ w1.heap.size := by omega
          have n2 : ga ≠ w1.heap.size + 1 := by omega
          clear hst hfw hE hr hin hmr hy0 hyl
          go_wp2
          go_roundw
          case rel =>
            refine ⟨j + 1, e', ml.set r true, ty.set e' s[r], rfl, ?_, ?_, by omega, ?_, ?_, HST, ?_, ?_, ?_, ?_⟩
            · rw [HR.out]
              rfl
            · exact hide (by have := HE.out; omega)
            · apply hide
              have h1 : (wr.setCell ⟨w1.heap.size + 1, r, none⟩ (.bool true)).heap[w1.heap.size]? = some (.cells (cellsY ty) 5 (0, 0)) := by
                rw [heap_setCell_other _ _ _ _ (by simp)]
                exact HY.out
              rw [heap_setCell_same _ _ _ _ _ _ h1, cellsY_set]
            · apply hide
              rw [heap_setCell_other _ _ _ _ (by simp), heap_setCell_same _ _ _ _ _ _ HT.out, cellsT_set]
            · refine hide (HML.out.next fun x => ?_)
              rw [Tur.rows_next, ← HR.out]
              simp only [List.mem_append, List.mem_singleton, List.append_assoc]
              exact ⟨fun h => by rcases h with h | h | h; exact .inr (.inl h); exact .inl h; exact .inr (.inr h), fun h => by rcases h with h | h | h; exact .inr (.inl h); exact .inl h; exact .inr (.inr h)⟩
            · apply hide
              rw [Tur.word_next, List.cons_append, ← HR.out]
              have e1 : t[r]?.getD 0 = s[r] := by rw [HTT.out, byte_at s r hrn]
              rw [e1]
              exact HTX.out.next (by omega) s[r]
            · exact (hbx.setCell (p := ⟨w1.heap.size + 1, r, none⟩) (Nat.le_succ_of_le hb1.size) _).setCell (p := ⟨w1.heap.size, e', none⟩) hb1.size _
            · exact (hbv.setCell (p := ⟨w1.heap.size + 1, r, none⟩) (Nat.le_succ _) _).setCell (p := ⟨w1.heap.size, e', none⟩) (Nat.le_refl _) _
          case measure => simp [intOf]
    · have hfn : f = s.size := by omega
      have hMd := HM.out
      rw [hfn, ← HTS.out] at hMd
      have hAll := hMd.done HA.out
      have hwl := Tur.words_length t p cs
      have hpl := hAll.perm.length_eq
      have hE := HE.out
      have e0 : e = 0 := by
        rw [List.length_range, HTS.out] at hpl
        have : (Tur.allRows p cs).length = s.size := hpl
        omega
      have htx := HTX.out
      rw [e0] at htx
      obtain ⟨tl, td⟩ := htx
      rw [List.drop_zero] at td
      have HAll := hide hAll
      have HTD := hide td
      have hlt1 := heap_lt0 HY.out
      have hfz : wr.heap.size ≤ (wr.alloc (.cells #[.pointer none, .slice none 0 0] 83)).heap.size := (World.grownBy_alloc _ _ none).size
      have cW := writeAll_any wr.heap.size wr.heap.size w1.heap.size s.size ty (wr.alloc (.cells #[.pointer none, .slice none 0 0] 83)) (fresh_one wr) (by omega) hfz hlt1 (fun k v hv => by
        refine Lib.cell?_alloc_some _ (cell_here HY.out ?_)
        simpa [cellsY, Lib.byteCells] using hv)
      rw [tl] at cW
      have CW := hide cW
      clear hMd hAll hwl hpl hE td cW
      go_wp2_with (first
        | (go_at_call 93; refine CW.out.mono ?_; rintro e w2 ⟨rfl, hB2, hb2⟩)
        | (go_at_call 64; refine (Tryz.Builder_String_any _ _ _ _ hB2 (Nat.le_trans hfz hb2.size)).mono ?_; rintro e w3 ⟨rfl, hb3⟩))
      go_ret
      have hsz2 : w.heap.size ≤ wr.heap.size := hbx.size
      refine ⟨ty, cs.map (Tur.word t p), rfl, HAll.out.good HA.out, HTD.out.symm, HAll.out.turned HA.out, ?_⟩
      exact ((hbx.alloc hbx.size _).trans (hb2.mono hsz2)).trans (hb3.mono hsz2)
end Go.Proofs.YtkiindkoiomieaaGreatDoor
end

section
/-
  P4: the walk of readingRanks.
-/
namespace Go.Proofs.YtkiindkoiomieaaGreatDoor
open Go.RowKit Go.Lib

set_option maxHeartbeats 2000000 in
set_option maxRecDepth 100000 in
theorem ranking_any (s : ByteArray) (ws : List (List UInt8)) (gn cn : Nat) (w : World) (hs : s.size ≤ 300) (hf : ws.flatten = s.data.toList) (hgn : gn < w.heap.size) (hc : ∀ x, x < s.size → w.cell? ⟨gn, x, none⟩ = some (.int .i64 (Tur.nx ws x : Int))) :
    Calls Tryz.prog 60 #[.string s, .slice (some ⟨gn, 0, none⟩) s.size cn] w fun e w' => ∃ g N rk, e = .returned (.slice (some ⟨g, 0, none⟩) s.size s.size) ∧ NumsAt w' g ((List.range s.size).map rk) ∧ s.size ≤ N ∧ Tur.RankN ws N rk ∧ (∀ x, x < s.size → rk x ≤ 300) ∧ Below w.heap.size w w' := by
  have hsum : ws.flatten.length = s.size := by rw [hf, ← Lib.size_eq]
  have hmi := make_ints s.size (by omega)
  have HS := hide hsum
  have HF := hide hf
  have HC := hide hc
  clear hsum hf hc
  go_enter Tryz.func60, Tryz.ntmps60
  go_wp2
  clear hmi
  go_loopw [13] (fun kv wr => ∃ k : Nat, k ≤ s.size ∧ kv = .int .i64 k ∧ Hid (NumsAt wr w.heap.size (fill (Duv.bt ws.flatten) s.size k)) ∧ Below w.heap.size w wr) (fun kv _ => s.size - (intOf kv).toNat)
  case atStart => exact ⟨0, by omega, rfl, by rw [fill_zero]; exact hide (heap_alloc_new _ _), (Below.refl _ _).alloc (Nat.le_refl _) _⟩
  case round =>
    obtain ⟨k, hk, rfl, HN, hbx⟩ := hrel
    by_cases hlt : k < s.size
    · have c1 := cell_here HN.out (cellsN_at (fill_at (Duv.bt ws.flatten) (k := k) hlt))
      rw [if_neg (Nat.lt_irrefl k)] at c1
      have f1 := frozen_of_row _ w.heap.size k _ _ HN.out
      go_wp2
      go_roundw
      case rel =>
        refine ⟨k + 1, by omega, by go_num, ?_, hbx.setCell (p := ⟨w.heap.size, k, none⟩) (Nat.le_refl _) _⟩
        apply hide
        unfold NumsAt
        rw [wrap64_byte, heap_setCell_same _ _ _ _ _ _ HN.out, cellsN_set, byte_bt s k hlt, ← HF.out, fill_set]
      case measure => simp [intOf]; omega
    · have hkd : k = s.size := by omega
      have hN := HN.out
      have e : fill (Duv.bt ws.flatten) s.size s.size = (List.range s.size).map (Duv.bt ws.flatten) := by
        unfold fill
        exact List.map_congr_left fun j hj => by rw [if_pos (List.mem_range.1 hj)]
      rw [hkd, e] at hN
      have HN2 := hide hN
      have hg0 := heap_lt0 hN
      clear hkd e hN HN
      go_wp2
      go_loopw [1, 5, 7] (fun ov rv nv wr => ∃ (N go co gr : Nat) (rk : Nat → Nat), ov = .slice (some ⟨go, 0, none⟩) s.size co ∧ rv = .slice (some ⟨gr, 0, none⟩) s.size s.size ∧ nv = .int .i64 N ∧ 1 ≤ N ∧ N ≤ 600 ∧ go < wr.heap.size ∧ gr < wr.heap.size ∧ Hid (NumsAt wr gr ((List.range s.size).map rk)) ∧ Hid (∀ x, x < s.size → wr.cell? ⟨go, x, none⟩ = some (.int .i64 (Tur.it (Tur.nx ws) N x : Nat))) ∧ Hid (Tur.RankN ws N rk) ∧ Hid (∀ x, x < s.size → rk x ≤ 300) ∧ Below w.heap.size w wr) (fun _ _ nv _ => s.size - (intOf nv).toNat)
      case atStart =>
        refine ⟨1, gn, cn, w.heap.size, Duv.bt ws.flatten, rfl, rfl, rfl, by omega, by omega, Nat.lt_of_lt_of_le hgn hbx.size, hg0, HN2, ?_, hide (Tur.RankN.start ws), ?_, hbx⟩
        · exact hide fun x hx => (hbx.cell (p := ⟨gn, x, none⟩) hgn).trans (HC.out x hx)
        · exact hide fun x _ => by have := bt_lt ws.flatten x; omega
      case round =>
        clear hbx HN2 hg0
        obtain ⟨N, go, co, gr, rk, rfl, rfl, rfl, hN1, hN2, hgo, hgr, HN, HO, HR, HB, hbx⟩ := hrel
        by_cases hlt2 : N < s.size
        · have cT := twice_any gr s.size go co s.size rk (fun x => Tur.it (Tur.nx ws) N x) wr hs hgr hgo (fun x hx => nums_cell HN.out hx) HO.out HB.out (fun x hx => by
            have := Tur.it_lt (ws := ws) (x := x) (by rw [HS.out]; exact hx) N
            rwa [HS.out] at this)
          have CT := hide cT
          clear cT
          go_wp2_with (go_at_call 94; refine CT.out.mono ?_; rintro e w1 ⟨g1, g2, rk', rfl, hN1', hN2', hb1, hl1, ho1⟩)
          go_roundw
          case rel =>
            refine ⟨N * 2, g2, s.size, g1, rk', rfl, rfl, by go_num, by omega, by omega, heap_lt0 hN2', heap_lt0 hN1', hide hN1', ?_, ?_, ?_, hbx.trans (hb1.mono hbx.size)⟩
            · refine hide fun x hx => ?_
              have := nums_cell hN2' hx
              rw [Tur.it_add, ← Nat.mul_two] at this
              exact this
            · refine hide (HR.out.twice fun x y hx hy => ?_)
              rw [HS.out] at hx hy
              exact ho1 x y hx hy
            · exact hide fun x hx => by have := hl1 x hx; omega
          case measure => simp [intOf]; omega
        · go_wp2
          go_ret
          exact ⟨gr, N, rk, rfl, HN.out, by omega, HR.out, HB.out, hbx⟩
end Go.Proofs.YtkiindkoiomieaaGreatDoor
end

section
/-
  P4: the walk of turned.
-/
namespace Go.Proofs.YtkiindkoiomieaaGreatDoor
open Go.RowKit Go.Lib Go.Sort

/-- The byte of a row. -/
def by2 (x : Int × Int) : UInt8 := UInt8.ofNat x.2.toNat

theorem by2_mk (a : Int) (t : List UInt8) (x : Nat) : by2 (a, (Duv.bt t x : Int)) = t[x]?.getD 0 := by
  unfold by2 Duv.bt
  simp

/-- Sorted rows tell the text, turned. -/
theorem turned_of_rows {ws : List (List UInt8)} {N n : Nat} {rk : Nat → Nat} (hn : ws.flatten.length = n) (hN : n ≤ N) (hr : Tur.RankN ws N rk) {f : Nat → Int × Int} (hf : f = fun j => (((rk (Tur.nx ws j) : Nat) : Int), ((Duv.bt ws.flatten j : Nat) : Int))) {d' : Array (Int × Int)}
    (hp : d'.toList.Perm (fillP f n n).toList) (hs : ∀ i j, i < j → j < n → ltP d'[j]! d'[i]! = false) : Tur.Turned ws (d'.toList.map by2) := by
  have e1 : (fillP f n n).toList = (List.range n).map f := by
    simp only [fillP]
    exact List.map_congr_left fun j hj => by rw [if_pos (List.mem_range.1 hj)]
  rw [e1] at hp
  obtain ⟨P, h1, h2⟩ := Tur.perm_lift f hp (List.range n) rfl
  have hlen : d'.size = n := by
    have := hp.length_eq
    simpa using this
  rw [h2, List.map_map]
  have e2 : P.map (by2 ∘ f) = P.map fun x => ws.flatten[x]?.getD 0 := by
    apply List.map_congr_left
    intro x _
    simp only [Function.comp_apply, hf]
    exact by2_mk _ _ _
  rw [e2]
  rw [← hn] at h1
  refine Tur.turned_rows (by rw [hn]; exact hN) hr h1 ?_
  have hpw : d'.toList.Pairwise fun a b => ltP b a = false := by
    rw [List.pairwise_iff_getElem]
    intro i j hi hj hij
    have hj' : j < d'.size := by simpa using hj
    have hi' : i < d'.size := by omega
    have := hs i j hij (by omega)
    rw [getElem!_pos d' j hj', getElem!_pos d' i hi'] at this
    simpa using this
  rw [h2, List.pairwise_map] at hpw
  refine hpw.imp fun {x y} h => ?_
  rw [hf, ltP_false] at h
  simp only at h
  omega

set_option maxHeartbeats 2000000 in
set_option maxRecDepth 100000 in
theorem turned_any (s : ByteArray) (w : World) (hs : s.size ≤ 300) (h0 : 0 < s.size) :
    Calls Tryz.prog 34 #[.string s] w fun e w' => ∃ (t : List UInt8) (ws : List (List UInt8)), e = .returned (strV t) ∧ Duv.Good ws ∧ ws.flatten = s.data.toList ∧ Tur.Turned ws t ∧ Below w.heap.size w w' := by
  obtain ⟨cs, hmk, hsize, hlie⟩ := make_pairs s.size (by omega)
  have HLI := hide hlie
  clear hlie hsize
  go_enter Tryz.func34, Tryz.ntmps34
  go_wp2_with fail
  go_at_call 59
  refine (next_places s w hs).mono ?_
  rintro e w1 ⟨v, ws, rfl, hg, hf, hown, hb1⟩
  obtain ⟨gn, cn, rfl, hgn, hcn⟩ : ∃ gn cn, v = .slice (some ⟨gn, 0, none⟩) s.size cn ∧ gn < w1.heap.size ∧ ∀ x, x < s.size → w1.cell? ⟨gn, x, none⟩ = some (.int .i64 (Tur.nx ws x : Int)) := by
    rcases hown.2 with ⟨_, h2⟩ | ⟨g, cap, cur, rfl, h3, h4, _⟩
    · omega
    · refine ⟨g, cap, rfl, heap_lt0 h4, fun x hx => ?_⟩
      rw [hown.cellAt x (by omega)]
      have hl : x < (Tur.nxt ws 0).length := by rw [Tur.nxt_length, hf, ← Lib.size_eq]; exact hx
      simp [numV, Tur.nx, hl]
  have hsum : ws.flatten.length = s.size := by rw [hf, ← Lib.size_eq]
  have cK := ranking_any s ws gn cn w1 hs hf hgn hcn
  have CK := hide cK
  have HG := hide hg
  have HF := hide hf
  have HS := hide hsum
  have HCN := hide hcn
  clear cK hg hf hsum hcn hown
  go_wp2_with fail
  go_at_call 60
  refine CK.out.mono ?_
  rintro e w2 ⟨gk, N, rk, rfl, hNK, hN, hR, hB, hb2⟩
  obtain ⟨f, hf⟩ : ∃ f : Nat → Int × Int, f = fun j => (((rk (Tur.nx ws j) : Nat) : Int), ((Duv.bt ws.flatten j : Nat) : Int)) := ⟨_, rfl⟩
  have HFF := hide hf
  have HNK := hide hNK
  have HR := hide hR
  have HBB := hide hB
  have hgk := heap_lt0 hNK
  have hgn2 : gn < w2.heap.size := Nat.lt_of_lt_of_le hgn hb2.size
  have hb12 := hb1.trans (hb2.mono hb1.size)
  have hcn2 : Hid (∀ x, x < s.size → w2.cell? ⟨gn, x, none⟩ = some (.int .i64 (Tur.nx ws x : Int))) := fun x hx => (hb2.cell (p := ⟨gn, x, none⟩) hgn).trans (HCN.out x hx)
  clear hf hNK hR hB CK HCN
  go_wp2
  clear hmk
  go_loopw [20] (fun kv wr => ∃ k : Nat, k ≤ s.size ∧ kv = .int .i64 k ∧ Hid (Lies wr w2.heap.size (fillP f s.size k)) ∧ Below w.heap.size w wr ∧ Below w2.heap.size w2 wr) (fun kv _ => s.size - (intOf kv).toNat)
  case atStart => exact ⟨0, by omega, rfl, by rw [← fillP_zero]; exact hide (HLI.out _ _ (heap_alloc_new _ _)), hb12.alloc hb12.size _, (Below.refl _ _).alloc (Nat.le_refl _) _⟩
  case round =>
    obtain ⟨k, hk, rfl, HL, hbx, hbv⟩ := hrel
    by_cases hlt : k < s.size
    · obtain ⟨c1, c2⟩ := HL.out.cell (j := k) (by rw [fillP_size]; exact hlt)
      generalize (fillP f s.size k)[k]! = old at c1 c2
      have f1 := HL.out.frozen (k * 2)
      have f2 := HL.out.frozen (k * 2 + 1)
      have hm0 : Tur.nx ws k < s.size := by
        have := Tur.nx_lt (ws := ws) (x := k) (by rw [HS.out]; exact hlt)
        rwa [HS.out] at this
      have d1 := (hbv.cell (p := ⟨gn, k, none⟩) hgn2).trans (hcn2.out k hlt)
      have d2 := (hbv.cell (p := ⟨gk, Tur.nx ws k, none⟩) hgk).trans (nums_cell HNK.out hm0)
      obtain ⟨m, hm⟩ : ∃ m, m = Tur.nx ws k := ⟨_, rfl⟩
      obtain ⟨a, ha⟩ : ∃ a, a = rk (Tur.nx ws k) := ⟨_, rfl⟩
      rw [← ha, ← hm] at d2
      rw [← hm] at d1 hm0
      have HA := hide ha
      have i1 : (0 : Int) ≤ (k : Int) := by omega
      have i2 : (k : Int) < (s.size : Int) := by omega
      have i3 : (0 : Int) ≤ (m : Int) := by omega
      have i4 : (m : Int) < (s.size : Int) := by omega
      have n1 : gn ≠ w2.heap.size := by omega
      have n2 : gk ≠ w2.heap.size := by omega
      clear hm ha
      go_wp2_with fail
      go_region
      go_wp2
      go_roundw
      case rel =>
        have hL2 := HL.out.set (i := k) (by rw [fillP_size]; exact hlt) (a : Int) (s[k].toNat : Int)
        have e : ((a : Int), (s[k].toNat : Int)) = f k := by rw [HFF.out, HA.out, byte_bt s k hlt, HF.out]
        rw [e, fillP_set] at hL2
        refine ⟨k + 1, by omega, by go_num, ?_, ?_, ?_⟩
        · rw [wrap64_byte]
          exact hide hL2
        · exact below_drewN ((hbx.setCell (p := ⟨w2.heap.size, k * 2, none⟩) hb12.size _).setCell (p := ⟨w2.heap.size, k * 2 + 1, none⟩) hb12.size _) 1
        · exact below_drewN ((hbv.setCell (p := ⟨w2.heap.size, k * 2, none⟩) (Nat.le_refl _) _).setCell (p := ⟨w2.heap.size, k * 2 + 1, none⟩) (Nat.le_refl _) _) 1
      case measure => simp [intOf]; omega
    · have hkd : k = s.size := by omega
      have hL := HL.out
      rw [hkd] at hL
      have hsz := fillP_size f s.size s.size
      have cS := sort_any w2.heap.size s.size (fillP f s.size s.size) wr (by rw [hsz]; omega) hL
      rw [hsz] at cS
      have CS := hide cS
      clear cS hL hsz HL hkd hbv
      rename World => wm
      go_wp2_with fail
      go_at_call 61
      refine CS.out.mono ?_
      rintro e w3 ⟨rfl, d', hds, hp, hso, hL3, hg3⟩
      have hb3 : Below w.heap.size w w3 := hbx.grown hg3 hbx.size (fun j hj => by cases hj; exact hb12.size)
      have hmem : Hid (∀ k, k < s.size → ∃ c : UInt8, d'[k]!.2 = (c.toNat : Int)) := fun k hk => by
        have h1 : d'[k]! ∈ d'.toList := by
          rw [getElem!_pos d' k (by omega)]
          simp
        have h2 := hp.mem_iff.1 h1
        simp only [fillP, List.mem_map, List.mem_range] at h2
        obtain ⟨j, hj, e⟩ := h2
        rw [if_pos hj, HFF.out] at e
        refine ⟨ws.flatten[j]?.getD 0, ?_⟩
        rw [← e]
        rfl
      have HT := hide (turned_of_rows HS.out hN HR.out HFF.out hp hso)
      have HL3 := hide hL3
      have hg2 := hL3.lt
      clear hp hso hL3 CS
      have hdl : d'.toList.length = s.size := by simpa using hds
      go_wp2
      go_loopw [43] (fun kv wr => ∃ (k : Nat) (out : List UInt8), k ≤ s.size ∧ kv = .int .i64 k ∧ out.length = k ∧ Hid (out = (d'.toList.take k).map by2) ∧ Lib.IsBuilder 83 5 w3.heap.size w3.heap.size (Lib.byteCells out) wr ∧ Below w3.heap.size w3 wr) (fun kv _ => s.size - (intOf kv).toNat)
      case atStart => exact ⟨0, [], by omega, rfl, rfl, hide rfl, fresh_one w3, (Below.refl _ _).alloc (Nat.le_refl _) _⟩
      case round =>
        obtain ⟨k, out, hk, rfl, hol, HOut, hB, hbw⟩ := hrel
        by_cases hlt2 : k < s.size
        · obtain ⟨c1, c2⟩ := (HL3.out).cell (j := k) (by omega)
          obtain ⟨c, hc⟩ := hmem.out k hlt2
          have hby : by2 d'[k]! = c := by
            unfold by2
            rw [hc]
            simp
          rw [hc] at c2
          generalize hx : d'[k]!.1 = x1 at c1
          have d1 := (hbw.cell (p := ⟨w2.heap.size, k * 2, none⟩) hg2).trans c1
          have d2 := (hbw.cell (p := ⟨w2.heap.size, k * 2 + 1, none⟩) hg2).trans c2
          have hclt := c.toNat_lt
          have hw8 : IntKind.u8.wrap (c.toNat : Int) = (c.toNat : Int) := by
            simp [IntKind.wrap, IntKind.bits, IntKind.signed]
            omega
          have HBY := hide hby
          have hbsz := hbw.size
          clear hx c1 c2 hc hby
          have hB' : Lib.IsBuilder 83 5 w3.heap.size w3.heap.size (Lib.byteCells out) (wr.alloc (.cells #[.int .i64 x1, .int .i64 (c.toNat : Int)] 77)) := builder_kept hB (World.grownBy_alloc wr _ (some w2.heap.size)) hg2
          have cW := write_any w3.heap.size w3.heap.size (Lib.byteCells out) (c.toNat : Int) _ hB' (by rw [Lib.byteCells_length]; omega) (Nat.le_trans hbsz (World.grownBy_alloc _ _ none).size)
          have CW := hide cW
          clear cW hB'
          go_wp2_with fail
          go_at_call 63
          refine CW.out.mono ?_
          rintro e w4 ⟨rfl, hB4, hb4⟩
          go_wp2
          go_roundw
          case rel =>
            refine ⟨k + 1, out ++ [c], by omega, by go_num, by rw [List.length_append]; simp; omega, ?_, ?_, (hbw.alloc hbsz _).trans hb4⟩
            · apply hide
              have hx : d'.toList[k]? = some d'[k]! := by
                rw [Array.getElem?_toList, Array.getElem?_eq_getElem (by omega), getElem!_pos d' k (by omega)]
              rw [HOut.out, Tur.take_next hx, List.map_append, List.map_cons, List.map_nil, HBY.out]
            · rw [← byteCells_snoc]
              exact .inr hB4
          case measure => simp [intOf]; omega
        · have hkd : k = s.size := by omega
          go_wp2_with (go_at_call 64; refine (Tryz.Builder_String_any _ _ _ _ hB hbw.size).mono ?_; rintro e w4 ⟨rfl, hb4⟩)
          go_ret
          refine ⟨out, ws, rfl, HG.out, HF.out, ?_, (hb3.trans (hbw.mono hb3.size)).trans (hb4.mono hb3.size)⟩
          have := HOut.out
          rw [hkd, ← hdl, List.take_length] at this
          rw [this]
          exact HT.out
end Go.Proofs.YtkiindkoiomieaaGreatDoor
end

section
/-
  P4: turned, where there is no byte; Turn and Back.
-/
namespace Go.Proofs.YtkiindkoiomieaaGreatDoor
open Go.RowKit Go.Lib Go.Sort

set_option maxHeartbeats 1000000 in
set_option maxRecDepth 100000 in
theorem ranking_none (s : ByteArray) (v : Value) (w : World) (h0 : s.size = 0) :
    Calls Tryz.prog 60 #[.string s, v] w fun e w' => e = .returned (.slice (some ⟨w.heap.size, 0, none⟩) 0 0) ∧ w' = w.alloc (.cells (cellsN []) 3) := by
  have hmi : ∀ W : World, (Instr.makeSlice 23 (.int .i64 0) (.int .i64 0)).run Tryz.prog W = .ok (.slice (some ⟨W.heap.size, 0, none⟩) 0 0) (W.alloc (.cells (cellsN []) 3)) := fun W => make_ints 0 (by omega) W
  go_enter Tryz.func60, Tryz.ntmps60
  go_wp2
  refine wp_loop_rounds 1 ?_
  rw [rounds_succ]
  go_wp2
  refine wp_loop_rounds 1 ?_
  rw [rounds_succ]
  go_wp2
  go_ret
  exact ⟨rfl, rfl⟩

theorem sort_none (p : Option Addr) (cap : Nat) (fv : Value) (w : World) :
    Calls Tryz.prog 61 #[.slice p 0 cap, fv] w fun e w' => e = .returned (.tuple #[]) ∧ w' = w :=
  AnyF.slices_SortFunc_none Tryz.sortPair p cap fv w

set_option maxHeartbeats 1000000 in
set_option maxRecDepth 100000 in
theorem turned_none (s : ByteArray) (w : World) (h0 : s.size = 0) :
    Calls Tryz.prog 34 #[.string s] w fun e w' => e = .returned (strV []) ∧ Below w.heap.size w w' := by
  obtain ⟨cs, hmk, hsize, hlie⟩ := make_pairs 0 (by omega)
  have hmk' : ∀ W : World, (Instr.makeSlice 75 (.int .i64 0) (.int .i64 0)).run Tryz.prog W = .ok (.slice (some ⟨W.heap.size, 0, none⟩) 0 0) (W.alloc (.cells cs 77)) := hmk
  clear hlie hsize hmk
  go_enter Tryz.func34, Tryz.ntmps34
  go_wp2_with fail
  go_at_call 59
  refine (next_places s w (by omega)).mono ?_
  rintro e w1 ⟨v, ws, rfl, _, _, _, hb1⟩
  go_wp2_with fail
  go_at_call 60
  refine (ranking_none s v w1 h0).mono ?_
  rintro e w2 ⟨rfl, hw2⟩
  have hb2 : Below w.heap.size w w2 := by rw [hw2]; exact hb1.alloc hb1.size _
  clear hw2
  go_wp2
  refine wp_loop_rounds 1 ?_
  rw [rounds_succ]
  go_wp2_with (go_at_call 61; refine (sort_none _ _ _ _).mono ?_; rintro e w3 ⟨rfl, rfl⟩)
  refine wp_loop_rounds 1 ?_
  rw [rounds_succ]
  have hb3 : Below w.heap.size w (w2.alloc (.cells cs 77)) := hb2.alloc hb2.size _
  have hsz : (w2.alloc (.cells cs 77)).heap.size = w2.heap.size + 1 := by simp
  have hB := fresh_one (w2.alloc (.cells cs 77))
  rw [hsz] at hB
  go_wp2_with (go_at_call 64; refine (Tryz.Builder_String_any _ _ _ _ hB (by simp)).mono ?_; rintro e w4 ⟨rfl, hb4⟩)
  go_ret
  refine ⟨rfl, ?_⟩
  have h5 := hb3.alloc hb3.size (.cells #[.pointer none, .slice none 0 0] 83)
  exact h5.trans (hb4.mono (by have := hb2.size; omega))

theorem good_none : Duv.Good [] := Duv.Good.nil
theorem turned_nil : Tur.Turned [] [] := Tur.turned_of (o := []) (List.Perm.refl _) List.Pairwise.nil

theorem turned_all (s : ByteArray) (w : World) (hs : s.size ≤ 300) :
    Calls Tryz.prog 34 #[.string s] w fun e w' => ∃ (t : List UInt8) (ws : List (List UInt8)), e = .returned (strV t) ∧ Duv.Good ws ∧ ws.flatten = s.data.toList ∧ Tur.Turned ws t ∧ Below w.heap.size w w' := by
  by_cases h0 : 0 < s.size
  · exact turned_any s w hs h0
  · have h1 : s.size = 0 := by omega
    refine (turned_none s w h1).mono ?_
    rintro e w' ⟨rfl, hb⟩
    have e0 : s.data.toList = [] := List.eq_nil_of_length_eq_zero (by rw [← Lib.size_eq]; exact h1)
    exact ⟨[], [], rfl, good_none, by rw [e0]; rfl, turned_nil, hb⟩

set_option maxHeartbeats 400000 in
theorem turn_short (s : ByteArray) (w : World) (hs : s.size ≤ 300) :
    Calls Tryz.prog 16 #[.string s] w fun e w' => ∃ (t : List UInt8) (ws : List (List UInt8)), e = .returned (.tuple #[strV t, .int .i64 0]) ∧ Duv.Good ws ∧ ws.flatten = s.data.toList ∧ Tur.Turned ws t ∧ Below w.heap.size w w' := by
  go_enter Tryz.func16, Tryz.ntmps16
  go_wp2_with (go_at_call 34; refine (turned_all _ _ hs).mono ?_; rintro e w' ⟨t, ws, rfl, h1, h2, h3, h4⟩; have H2 := hide h2; clear h2)
  go_ret2
  exact ⟨t, ws, rfl, h1, H2.out, h3, h4⟩

set_option maxHeartbeats 400000 in
theorem back_short (s : ByteArray) (w : World) (hs : s.size ≤ 300) :
    Calls Tryz.prog 32 #[.string s] w fun e w' => ∃ (b : List UInt8) (ws : List (List UInt8)), e = .returned (.tuple #[strV b, .int .i64 0]) ∧ Duv.Good ws ∧ ws.flatten = b ∧ Tur.Turned ws s.data.toList ∧ Below w.heap.size w w' := by
  go_enter Tryz.func32, Tryz.ntmps32
  go_wp2_with (go_at_call 58; refine (turnedBack_any _ _ (by omega)).mono ?_; rintro e w' ⟨b, ws, rfl, h1, h2, h3, h4⟩; have H2 := hide h2; clear h2)
  go_ret2
  exact ⟨b, ws, rfl, h1, H2.out, h3, h4⟩

set_option maxHeartbeats 400000 in
theorem turn_long (s : ByteArray) (w : World) (hs : 300 < s.size) (hm : s.size ≤ 9223372036854775807) :
    Calls Tryz.prog 16 #[.string s] w fun e w' => e = .returned (.tuple #[.string ⟨#[]⟩, .int .i64 1]) ∧ w' = w := by
  go_enter Tryz.func16, Tryz.ntmps16
  go_wp2
  go_ret2
  exact ⟨rfl, rfl⟩

set_option maxHeartbeats 400000 in
theorem back_long (s : ByteArray) (w : World) (hs : 300 < s.size) (hm : s.size ≤ 9223372036854775807) :
    Calls Tryz.prog 32 #[.string s] w fun e w' => e = .returned (.tuple #[.string ⟨#[]⟩, .int .i64 1]) ∧ w' = w := by
  go_enter Tryz.func32, Tryz.ntmps32
  go_wp2
  go_ret2
  exact ⟨rfl, rfl⟩
end Go.Proofs.YtkiindkoiomieaaGreatDoor
end

section
/-
  Plain mathematics of P4: there are some for any bytes, and just one such text. Nothing of the program.
-/
namespace Go.Proofs.YtkiindkoiomieaaGreatDoor.Tur
open Duv

/-! ### For any bytes there are some -/
/-- One row stands ahead of another, by its letter and then by its place. -/
def rowLt (t : List UInt8) (q r : Nat) : Bool := decide (bt t q < bt t r) || (decide (bt t q = bt t r) && decide (q < r))

theorem rowLt_iff (t : List UInt8) (q r : Nat) : rowLt t q r = true ↔ bt t q < bt t r ∨ (bt t q = bt t r ∧ q < r) := by simp [rowLt]

/-- How many stand ahead of it. -/
def rank (t : List UInt8) (r : Nat) : Nat := (List.range t.length).countP fun q => rowLt t q r

theorem countP_lt {α : Type} {p q : α → Bool} : ∀ {l : List α}, (∀ x, p x = true → q x = true) → ∀ {y : α}, y ∈ l → p y = false → q y = true → l.countP p < l.countP q
  | [], _, _, h, _, _ => by simp at h
  | x :: l, hpq, y, h, h1, h2 => by
    have hle : l.countP p ≤ l.countP q := List.countP_mono_left fun z _ hz => hpq z hz
    rcases List.mem_cons.1 h with e | h
    · subst e
      rw [List.countP_cons, List.countP_cons, h1, h2]
      simp
      omega
    · have ih := countP_lt hpq h h1 h2
      rw [List.countP_cons, List.countP_cons]
      cases hp : p x with
      | false => cases q x <;> simp <;> omega
      | true => rw [hpq x hp]; simp; omega

theorem rank_ahead (t : List UInt8) : Ahead t (rank t) := by
  have key : ∀ r s, r < t.length → rowLt t r s = true → rank t r < rank t s := fun r s hr h => by
    refine countP_lt (fun q hq => ?_) (y := r) (List.mem_range.2 hr) ?_ h
    · rw [rowLt_iff] at hq h ⊢
      omega
    · cases e : rowLt t r r with
      | false => rfl
      | true => rw [rowLt_iff] at e; omega
  refine ⟨fun r hr => ?_, fun r s hr hs => ?_⟩
  · have h1 : rank t r < (List.range t.length).countP fun _ => true := by
      refine countP_lt (fun _ _ => rfl) (y := r) (List.mem_range.2 hr) ?_ rfl
      cases e : rowLt t r r with
      | false => rfl
      | true => rw [rowLt_iff] at e; omega
    simpa using h1
  · constructor
    · intro h
      rcases Nat.lt_trichotomy (bt t r) (bt t s) with e | e | e
      · exact .inl e
      · rcases Nat.lt_trichotomy r s with e2 | e2 | e2
        · exact .inr ⟨e, e2⟩
        · subst e2; omega
        · have := key s r hs ((rowLt_iff t s r).2 (.inr ⟨e.symm, e2⟩))
          omega
      · have := key s r hs ((rowLt_iff t s r).2 (.inl e))
        omega
    · intro h
      exact key r s hr ((rowLt_iff t r s).2 h)

theorem Steps.ends {t : List UInt8} {p : Nat → Nat} (hA : Ahead t p) {cs : List (Nat × Nat)} {f : Nat} (hm : Met t p cs f) (hf : f ∉ allRows p cs) : ∀ k j, Steps t p cs f j → t.length - j ≤ k → ∃ j', 0 < j' ∧ Steps t p cs f j' ∧ it p j' f = f
  | 0, j, h, hk => by
    have h1 := h.few hA hm
    have h2 := h.lt
    by_cases hin : it p j f ∈ rows p (f, j) ++ allRows p cs
    · exact ⟨j, by omega, h, h.close hA hm (by omega) hin⟩
    · have := (h.next hin).few hA hm
      omega
  | k + 1, j, h, hk => by
    by_cases hin : it p j f ∈ rows p (f, j) ++ allRows p cs
    · by_cases hj : j = 0
      · subst hj
        exfalso
        exact hf (by simpa [rows, it] using hin)
      · exact ⟨j, by omega, h, h.close hA hm (by omega) hin⟩
    · exact Steps.ends hA hm hf k (j + 1) (h.next hin) (by omega)

theorem met_all {t : List UInt8} {p : Nat → Nat} (hA : Ahead t p) : ∀ f, f ≤ t.length → ∃ cs, Met t p cs f
  | 0, _ => ⟨[], Met.start t p⟩
  | f + 1, h => by
    obtain ⟨cs, hm⟩ := met_all hA f (by omega)
    by_cases hf : f ∈ allRows p cs
    · exact ⟨cs, hm.again hf⟩
    · obtain ⟨j, hj, hs, hr⟩ := Steps.ends hA hm hf t.length 0 (Steps.start hm (by omega)) (by omega)
      exact ⟨(f, j) :: cs, hm.more hs hj hr⟩

theorem back_ex (t : List UInt8) : ∃ us, Good us ∧ Turned us t := by
  obtain ⟨cs, hm⟩ := met_all (rank_ahead t) t.length (Nat.le_refl _)
  have hall := hm.done (rank_ahead t)
  exact ⟨_, hall.good (rank_ahead t), hall.turned (rank_ahead t)⟩

/-! ### And just one -/
/-- All texts of n letters. -/
def texts : Nat → List (List UInt8)
  | 0 => [[]]
  | n + 1 => (texts n).flatMap fun l => ((List.range 256).map UInt8.ofNat).map fun c => c :: l

theorem mem_texts : ∀ (n : Nat) (l : List UInt8), l ∈ texts n ↔ l.length = n
  | 0, l => by simp [texts, List.length_eq_zero_iff]
  | n + 1, l => by
    rw [texts, List.mem_flatMap]
    constructor
    · rintro ⟨m, hm, hl⟩
      rw [List.mem_map] at hl
      obtain ⟨c, _, rfl⟩ := hl
      rw [List.length_cons, (mem_texts n m).1 hm]
    · intro h
      cases l with
      | nil => simp at h
      | cons c l =>
        refine ⟨l, (mem_texts n l).2 (by simpa using h), List.mem_map.2 ⟨c, List.mem_map.2 ⟨c.toNat, List.mem_range.2 c.toNat_lt, by simp⟩, rfl⟩⟩

theorem texts_nodup : ∀ n : Nat, (texts n).Nodup
  | 0 => by simp [texts]
  | n + 1 => by
    rw [texts, List.nodup_iff_pairwise_ne, List.pairwise_flatMap]
    refine ⟨fun l _ => ?_, ?_⟩
    · rw [List.pairwise_map, List.pairwise_map]
      refine List.Pairwise.imp_of_mem (fun {a b} ha hb hab e => ?_) List.pairwise_lt_range
      rw [List.mem_range] at ha hb
      simp only [List.cons.injEq, and_true] at e
      have := congrArg UInt8.toNat e
      simp at this
      omega
    · refine (List.nodup_iff_pairwise_ne.1 (texts_nodup n)).imp fun {a b} hab x hx y hy e => ?_
      obtain ⟨c, _, rfl⟩ := List.mem_map.1 hx
      obtain ⟨d, _, rfl⟩ := List.mem_map.1 hy
      simp only [List.cons.injEq] at e
      exact hab e.2

/-- What leads different ones of finitely many to different ones among them comes to each. -/
theorem onto {α : Type} {L : List α} (hL : L.Nodup) (f : α → α) (hf : ∀ x ∈ L, f x ∈ L) (hi : ∀ x ∈ L, ∀ y ∈ L, f x = f y → x = y) {y : α} (hy : y ∈ L) : ∃ x ∈ L, f x = y := by
  apply Classical.byContradiction
  intro hno
  have hnd : (L.map f).Nodup := by
    rw [List.nodup_iff_pairwise_ne, List.pairwise_map]
    refine List.Pairwise.imp_of_mem (fun {a b} ha hb hab e => hab (hi a ha b hb e)) (List.nodup_iff_pairwise_ne.1 hL)
  have h2 : (y :: L.map f).Nodup := by
    rw [List.nodup_cons]
    refine ⟨fun h => ?_, hnd⟩
    obtain ⟨x, hx, e⟩ := List.mem_map.1 h
    exact hno ⟨x, hx, e⟩
  have := List.Nodup.length_le_of_subset (l₂ := L) h2 (fun z hz => by
    rcases List.mem_cons.1 hz with rfl | hz
    · exact hy
    · obtain ⟨x, hx, rfl⟩ := List.mem_map.1 hz
      exact hf x hx)
  simp at this
  omega

theorem turned_inj {ws us : List (List UInt8)} {t : List UInt8} (h1 : Good ws) (h2 : Good us) (t1 : Turned ws t) (t2 : Turned us t) : ws = us := by
  have hb : ∀ t : List UInt8, ∃ us, Good us ∧ Turned us t := back_ex
  let B : List UInt8 → List (List UInt8) := fun t => (hb t).choose
  have hBg : ∀ t, Good (B t) := fun t => (hb t).choose_spec.1
  have hBt : ∀ t, Turned (B t) t := fun t => (hb t).choose_spec.2
  have hlen : ∀ t, (B t).flatten.length = t.length := fun t => (hBt t).length.symm
  have key : ∀ ws : List (List UInt8), Good ws → Turned ws t → ws = B t := fun ws hg ht => by
    have hn : ws.flatten.length = t.length := ht.length.symm
    obtain ⟨x, hx, e⟩ := onto (L := texts t.length) (texts_nodup _) (fun s => (B s).flatten)
      (fun s hs => by
        rw [mem_texts] at hs ⊢
        rw [hlen, hs])
      (fun a _ b _ e => by
        have e2 := good_unique _ _ (hBg a) (hBg b) e
        have ha := hBt a
        rw [e2] at ha
        exact ha.unique (hBt b))
      (y := ws.flatten) (by rw [mem_texts]; exact hn)
    have e2 := good_unique _ _ (hBg x) hg e
    have hx2 := hBt x
    rw [e2] at hx2
    have := hx2.unique ht
    rw [← this, e2]
  rw [key ws h1 t1, key us h2 t2]

/-- The same bytes. -/
theorem Turned.perm {ws : List (List UInt8)} {t : List UInt8} (h : Turned ws t) : t.Perm ws.flatten := by
  obtain ⟨l, p, _, rfl⟩ := h
  have h1 := (places_perm ws).map Prod.snd
  rw [List.map_map] at h1
  have e : (List.range ws.flatten.length).map (Prod.snd ∘ fun x => (Rd ws (nx ws x), ws.flatten[x]?.getD 0)) = ws.flatten := by
    apply List.ext_getElem
    · simp
    · intro i h1 h2
      simp only [List.getElem_map, List.getElem_range, Function.comp_apply]
      rw [List.getElem?_eq_getElem h2, Option.getD_some]
  rw [e] at h1
  exact (p.map Prod.snd).trans h1.symm
end Go.Proofs.YtkiindkoiomieaaGreatDoor.Tur
end

