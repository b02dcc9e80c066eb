/-
  P4: the walk of nextPlaces.
-/
import Derived.Test.YtkiindkoiomieaaBackRows
import Derived.Test.YtkiindkoiomieaaReadMath
import Derived.Test.YtkiindkoiomieaaRefTurn
namespace Go.Proofs.Ytkiindkoiomieaa
open Go.RowKit Go.Lib

/-- Numbers, one behind the other. -/
def numV (l : List Nat) : List Value := l.map fun x : Nat => Value.int .i64 (x : Int)

theorem numV_length (l : List Nat) : (numV l).length = l.length := by simp [numV]
theorem numV_snoc (l : List Nat) (x : Nat) : numV (l ++ [x]) = numV l ++ [.int .i64 (x : Int)] := by simp [numV]

set_option maxHeartbeats 2000000 in
set_option maxRecDepth 100000 in
theorem next_places (s : ByteArray) (w : World) (hs : s.size ≤ 300) :
    Calls Try.prog 49 #[.string s] w fun e w' => ∃ (v : Value) (ws : List (List UInt8)), e = .returned v ∧ Duv.Good ws ∧ ws.flatten = s.data.toList ∧ w'.ownsRow w.heap.size 3 1 v s.size (numV (Tur.nxt ws 0)) ∧ Below w.heap.size w w' := by
  obtain ⟨i0, hi, hz0, hz1, hz2⟩ := info_parts Try.info3
  go_enter Try.func49, Try.ntmps49
  go_wp2_with fail
  go_at_call 32
  refine (cut_any s w hs).mono ?_
  rintro e w1 ⟨v, ws, rfl, hrow, hb1, hg, hf⟩
  have hsum : ws.flatten.length = s.size := by rw [hf, ← Lib.size_eq]
  have hfew : ws.length ≤ 300 := by
    have := good_few hg
    omega
  have HG := hide hg
  have HF := hide hf
  have HS := hide hsum
  clear hg hf hsum
  rcases cells_of_owns hrow rfl with ⟨rfl, hws⟩ | ⟨g, cap, rfl, hcell⟩
  · subst hws
    have hs0 : s.size = 0 := by have := HS.out; simpa using this.symm
    go_wp2
    refine wp_loop_rounds 1 ?_
    rw [rounds_succ]
    go_wp2
    go_ret
    refine ⟨_, [], rfl, HG.out, HF.out, ?_, hb1⟩
    rw [hs0]
    exact World.ownsRow_nil _ _ _ _
  · have HC := hide hcell
    clear hcell hrow
    go_wp2
    go_loopw [3, 11] (fun nv kv wr => ∃ k : Nat, k ≤ ws.length ∧ kv = .int .i64 k ∧ wr.ownsRow w1.heap.size 3 1 nv (ws.take k).flatten.length (numV (Tur.nxt (ws.take k) 0)) ∧ Below w.heap.size w wr ∧ Below w1.heap.size w1 wr) (fun _ kv _ => ws.length - (intOf kv).toNat)
    case atStart => exact ⟨0, by omega, rfl, World.ownsRow_nil _ _ _ _, hb1, Below.refl _ _⟩
    case round =>
      obtain ⟨k, hk, rfl, hro, hbx, hbv⟩ := hrel
      by_cases hlt : k < ws.length
      · obtain ⟨u, hu⟩ : ∃ u, ws[k]? = some u := ⟨_, List.getElem?_eq_getElem hlt⟩
        have hc0 := HC.out k u hu
        unfold strV at hc0
        have hfw := places_few hu
        rw [HS.out, places_length] at hfw
        obtain ⟨U, hU⟩ : ∃ U : ByteArray, U = ⟨u.toArray⟩ := ⟨_, rfl⟩
        have hUl : U.size = u.length := by rw [hU, strV_size]
        have hg1 : g < w1.heap.size := cell_lt hc0
        have hu0 : 0 < u.length := (HG.out.1 u (List.mem_of_getElem? hu)).1
        rw [← hU] at hc0
        rw [← hUl] at hfw hu0
        have hcu := (hbv.cell (p := ⟨g, k, none⟩) hg1).trans hc0
        obtain ⟨st, hst⟩ : ∃ st, st = (ws.take k).flatten.length := ⟨_, rfl⟩
        rw [← hst] at hfw hro
        obtain ⟨ao, capo, rfl⟩ := owns_slice hro
        obtain ⟨N0, hN0⟩ : ∃ N0, N0 = Tur.nxt (ws.take k) 0 := ⟨_, rfl⟩
        rw [← hN0] at hro
        have HU := hide hu
        have HUL := hide hUl
        have HST := hide hst
        have HN0 := hide hN0
        have hz : ¬ ((U.size : Int) = 0) := by omega
        clear hu hU hUl hc0 hst hN0
        go_wp2
        go_loopw [3, 19] (fun nv iv wr => ∃ i : Nat, i ≤ U.size ∧ iv = .int .i64 i ∧ wr.ownsRow w1.heap.size 3 1 nv (st + i) (numV (N0 ++ (List.range i).map fun x => st + (x + 1) % U.size)) ∧ Below w.heap.size w wr ∧ Below w1.heap.size w1 wr) (fun _ iv _ => U.size - (intOf iv).toNat)
        case atStart => exact ⟨0, by omega, rfl, by simpa using hro, hbx, hbv⟩
        case round =>
          clear hro hbx hbv hcu
          obtain ⟨i, hi1, rfl, hro, hbx, hbv⟩ := hrel
          by_cases hli : i < U.size
          · obtain ⟨r, hr⟩ : ∃ r, r = (i + 1) % U.size := ⟨_, rfl⟩
            have hrl : r < U.size := by rw [hr]; exact Nat.mod_lt _ (by omega)
            have hm1 : ((i : Int) + 1) % (U.size : Int) = (r : Int) := by rw [hr]; simp
            have hm2 : ((i : Int) + 1).tmod (U.size : Int) = (r : Int) := by rw [hr]; exact (Int.ofNat_tmod (i + 1) U.size).symm
            have HR := hide hr
            clear hr
            go_wp2_with (at_builtin; refine wpList_append_own _ rfl _ _ 24 rfl w1.heap.size 3 i0 (.int .i64 0) 1 8 Try.underlying24 hi hz0 hz1 hz2 rfl (by decide) _ _ _ rfl (hro.alloc _) ⟨wr.heap.size, 0, none⟩ 1 1 [.int .i64 ((st : Int) + (r : Int))] rfl rfl (cell_one_new _ _ _) (fun x hx => by simp at hx; subst hx; rfl) (by unfold maxLen; omega) (by omega) (Nat.le_trans hbv.size (World.grownBy_alloc _ _ none).size) ?_; intro v' w3 hown hgrow hnil)
            go_roundw
            case rel =>
              refine ⟨i + 1, by omega, by go_num, ?_, (hbx.alloc hbx.size _).grown hgrow (Nat.le_trans hbx.size (World.grownBy_alloc _ _ none).size) (fun j hj => Nat.le_trans hb1.size (hro.lt j hj).1), (hbv.alloc hbv.size _).grown hgrow (Nat.le_trans hbv.size (World.grownBy_alloc _ _ none).size) (fun j hj => (hro.lt j hj).1)⟩
              rw [List.range_succ, List.map_append, List.map_cons, List.map_nil, ← List.append_assoc, numV_snoc, ← HR.out, Int.natCast_add]
              exact hown
            case measure => simp [intOf]; omega
          · have hiU : i = U.size := by omega
            subst hiU
            go_wp2
            go_roundw
            case rel =>
              refine ⟨k + 1, by omega, by go_num, ?_, hbx, hbv⟩
              have e1 : (ws.take (k + 1)).flatten.length = st + U.size := by
                rw [Tur.take_next HU.out, List.flatten_append, List.length_append, ← HST.out, HUL.out]
                simp
              have e2 : Tur.nxt (ws.take (k + 1)) 0 = N0 ++ (List.range U.size).map fun x => st + (x + 1) % U.size := by
                rw [Tur.take_next HU.out, Tur.nxt_snoc, ← HN0.out, ← HST.out, HUL.out, Nat.zero_add]
              rw [e1, e2]
              exact hro
            case measure => simp [intOf]; omega
      · have hkw : k = ws.length := by omega
        go_wp2
        go_ret
        refine ⟨_, ws, rfl, HG.out, HF.out, ?_, hbx⟩
        rw [hkw, List.take_length, HS.out] at hro
        exact owns_lower hro hb1.size
end Go.Proofs.Ytkiindkoiomieaa
