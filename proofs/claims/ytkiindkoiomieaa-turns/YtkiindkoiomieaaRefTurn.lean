/-
  P4: the walk of twineref's Turn.
-/
import Derived.Test.YtkiindkoiomieaaRefRound
import Derived.Test.YtkiindkoiomieaaInsMath
import Derived.Test.YtkiindkoiomieaaCutLaw
import Derived.Test.YtkiindkoiomieaaMoveRef
import Derived.Deep.RegionHeld3
import Derived.BigRegion
namespace Go.Proofs.Ytkiindkoiomieaa
open Go.RowKit

theorem Try.info61 : (Try.prog.info? 61).map (fun i => (i.zero, i.size, i.bytes)) = some (some (.agg #[.string ByteArray.empty, .int .i64 0]), 2, 24) := by kernel_rfl

/-- Places, as they stand in memory. -/
def rcells (o : List (List UInt8 × Nat)) : List Value := o.flatMap fun p => [strV p.1, .int .i64 p.2]

theorem rcells_length (o : List (List UInt8 × Nat)) : (rcells o).length = o.length * 2 := by
  induction o with
  | nil => rfl
  | cons p o ih =>
    rw [rcells, List.flatMap_cons, List.length_append]
    show 2 + (rcells o).length = _
    rw [ih, List.length_cons]
    omega

theorem rcells_at : ∀ {o : List (List UInt8 × Nat)} {j : Nat} {p : List UInt8 × Nat}, o[j]? = some p → (rcells o)[j * 2]? = some (strV p.1) ∧ (rcells o)[j * 2 + 1]? = some (.int .i64 p.2)
  | q :: o, 0, p, h => by
    simp at h
    subst h
    exact ⟨rfl, rfl⟩
  | q :: o, j + 1, p, h => by
    have h' : o[j]? = some p := by simpa using h
    have := rcells_at h'
    have e1 : (j + 1) * 2 = j * 2 + 2 := by omega
    rw [e1]
    exact this
  | [], j, p, h => by simp at h

theorem rcells_snoc (o : List (List UInt8 × Nat)) (p : List UInt8 × Nat) : rcells (o ++ [p]) = rcells o ++ [strV p.1, .int .i64 p.2] := by
  simp [rcells]

/-- A row of places: where its cells lie. -/
theorem round_cells {w : World} {base n : Nat} {v : Value} {o : List (List UInt8 × Nat)} (h : w.ownsRow base 61 2 v n (rcells o)) (hn : n = o.length) {j : Nat} {p : List UInt8 × Nat} (hj : o[j]? = some p) :
    ∃ g cap, v = .slice (some ⟨g, 0, none⟩) o.length cap ∧ g < w.heap.size ∧ base ≤ g ∧ w.cell? ⟨g, j * 2, none⟩ = some (strV p.1) ∧ w.cell? ⟨g, j * 2 + 1, none⟩ = some (.int .i64 p.2) := by
  subst hn
  have hl := (List.getElem?_eq_some_iff.1 hj).1
  rcases h.2 with ⟨_, h2⟩ | ⟨g, cap, cur, rfl, h3, h4, h5, h6, h7, h8⟩
  · omega
  · have hc := rcells_at hj
    refine ⟨g, cap, rfl, heap_lt0 h4, h3, ?_, ?_⟩
    · rw [h.cellAt (j * 2) (by omega)]
      exact hc.1
    · rw [h.cellAt (j * 2 + 1) (by omega)]
      exact hc.2

theorem owns_lower {w : World} {b b' : Nat} {e : TypeId} {size : Nat} {v : Value} {n : Nat} {xs : List Value} (h : w.ownsRow b' e size v n xs) (hb : b ≤ b') : w.ownsRow b e size v n xs := by
  refine ⟨h.1, ?_⟩
  rcases h.2 with h2 | ⟨g, cap, cur, h2, h3, h4⟩
  · exact .inl h2
  · exact .inr ⟨g, cap, cur, h2, Nat.le_trans hb h3, h4⟩

theorem owns_slice {w : World} {b : Nat} {e : TypeId} {size : Nat} {v : Value} {n : Nat} {xs : List Value} (h : w.ownsRow b e size v n xs) : ∃ ao cap, v = .slice ao n cap := by
  rcases h.2 with ⟨h2, h3⟩ | ⟨g, cap, cur, h2, h3, h4⟩
  · exact ⟨none, 0, by rw [h2, h3]⟩
  · exact ⟨_, _, h2⟩

theorem cell_two_new (w : World) (x y : Value) (t : TypeId) : ∀ j u, [x, y][j]? = some u → (w.alloc (.cells #[x, y] t)).cell? ((⟨w.heap.size, 0, none⟩ : Addr).add j) = some u := by
  intro j u hj
  rw [Addr.add_lit, Nat.zero_add]
  refine cell_here (heap_alloc_new _ _) ?_
  simpa using hj

theorem two_one (X : ByteArray) (y : Int) : ∀ u ∈ [Value.string X, .int .i64 y], u.oneCell' = true := by
  intro u hu
  simp at hu
  rcases hu with rfl | rfl <;> rfl

theorem byte_at (s : ByteArray) (k : Nat) (h : k < s.size) : s[k] = s.data.toList[k]?.getD 0 := by
  have h' : k < s.data.toList.length := by simpa using h
  simp only [List.getElem?_eq_getElem h', Option.getD_some]
  rfl

theorem cell_lt {w : World} {g i : Nat} {v : Value} (h : w.cell? ⟨g, i, none⟩ = some v) : g < w.heap.size := by
  rcases Nat.lt_or_ge g w.heap.size with h1 | h1
  · exact h1
  · exfalso
    have : w.heap[g]? = none := Array.getElem?_eq_none h1
    simp [World.cell?, this] at h

theorem places_length (ws : List (List UInt8)) : (Tur.places ws).length = ws.flatten.length := by
  unfold Tur.places
  rw [List.length_flatMap, List.length_flatten]
  congr 1
  simp

theorem places_few {ws : List (List UInt8)} {i : Nat} {u : List UInt8} (h : ws[i]? = some u) : (Tur.places (ws.take i)).length + u.length ≤ ws.flatten.length := by
  have h1 := Tur.places_next h
  have h2 : (Tur.places (ws.take (i + 1))).length ≤ ws.flatten.length := by
    rw [places_length]
    have : (ws.take (i + 1) ++ ws.drop (i + 1)).flatten.length = ws.flatten.length := by rw [List.take_append_drop]
    rw [List.flatten_append, List.length_append] at this
    omega
  rw [h1] at h2
  simpa using h2

theorem place_small {ws : List (List UInt8)} {i k N : Nat} {u : List UInt8} {p : List UInt8 × Nat} (hS : ws.flatten.length = N) (hN : N ≤ 300) (hu : ws[i]? = some u) (hk : k ≤ u.length) (hp : p ∈ Tur.places (ws.take i) ++ (List.range k).map fun x => (u, x)) : p.2 < p.1.length ∧ p.1.length ≤ 300 := by
  have hall : ∀ x ∈ ws, x.length ≤ 300 := fun x hx => by
    have := (List.sublist_flatten_of_mem hx).length_le
    omega
  rcases List.mem_append.1 hp with h | h
  · have := Tur.mem_places h
    exact ⟨this.2, hall _ (List.mem_of_mem_take this.1)⟩
  · simp at h
    obtain ⟨x, hx, rfl⟩ := h
    exact ⟨Nat.lt_of_lt_of_le hx hk, hall _ (List.mem_of_getElem? hu)⟩

set_option maxHeartbeats 2000000 in
set_option maxRecDepth 100000 in
theorem refTurn_any (s : ByteArray) (w : World) (hs : s.size ≤ 300) (ws : List (List UInt8)) (hg : Duv.Good ws) (hf : ws.flatten = s.data.toList) :
    Calls Try.prog 22 #[.string s] w fun e w' => ∃ t : List UInt8, e = .returned (strV t) ∧ Tur.Turned ws t ∧ Below w.heap.size w w' := by
  obtain ⟨i0, hi, hz0, hz1, hz2⟩ := info_parts Try.info61
  have cF := factors_any s w hs ws hg hf
  have hsum : ws.flatten.length = s.size := by rw [hf, ← Lib.size_eq]
  have CF := hide cF
  have HG := hide hg
  have HF := hide hf
  have HS := hide hsum
  have hfew : ws.length ≤ 300 := by
    have := good_few hg
    rw [hf, ← Lib.size_eq] at this
    omega
  clear cF hg hf hsum
  go_enter Try.func22, Try.ntmps22
  go_wp2_with (go_at_call 36; refine CF.out.mono ?_; rintro e w1 ⟨v, rfl, hrow, hb1⟩)
  rcases cells_of_owns hrow rfl with ⟨rfl, hws⟩ | ⟨g, cap, rfl, hcell⟩
  · subst hws
    go_wp2
    refine wp_loop_rounds 1 ?_
    rw [rounds_succ]
    go_wp2
    refine wp_loop_rounds 1 ?_
    rw [rounds_succ]
    go_wp2
    go_ret
    exact ⟨[], rfl, Tur.turned_of (o := []) (List.Perm.refl _) List.Pairwise.nil, hb1⟩
  · have HC := hide hcell
    have HR := hide hrow
    clear hcell hrow
    go_wp2
    go_loopw [4, 5] (fun ov iv wr => ∃ (i : Nat) (o : List (List UInt8 × Nat)), i ≤ ws.length ∧ iv = .int .i64 i ∧ wr.ownsRow w.heap.size 61 2 ov o.length (rcells o) ∧ Below w.heap.size w wr ∧ Below w1.heap.size w1 wr ∧ o.length ≤ 300 ∧ Hid (o.Perm (Tur.places (ws.take i))) ∧ Hid (Tur.Sp o)) (fun _ iv _ => ws.length - (intOf iv).toNat)
    case atStart => exact ⟨0, [], by omega, rfl, World.ownsRow_nil _ _ _ _, hb1, Below.refl _ _, by simp, hide (List.Perm.refl _), hide List.Pairwise.nil⟩
    case round =>
      obtain ⟨i, o, hi1, rfl, hro, hbx, hb2, hol, HP, HSp⟩ := hrel
      by_cases hlt : i < ws.length
      · obtain ⟨u, hu⟩ : ∃ u, ws[i]? = some u := ⟨_, List.getElem?_eq_getElem hlt⟩
        have hc0 := HC.out i u hu
        unfold strV at hc0
        have hfw := places_few hu
        rw [HS.out] at hfw
        obtain ⟨U, hU⟩ : ∃ U : ByteArray, U = ⟨u.toArray⟩ := ⟨_, rfl⟩
        have hUl : U.size = u.length := by rw [hU, strV_size]
        have hg1 : g < w1.heap.size := cell_lt hc0
        have hu0 : 0 < u.length := (HG.out.1 u (List.mem_of_getElem? hu)).1
        rw [← hU] at hc0
        rw [← hUl] at hfw hu0
        have HU := hide hu
        have HUU := hide hU
        have HUL := hide hUl
        have HC0 := hide hc0
        clear hu hU hUl hc0
        have hpl := HP.out.length_eq
        have hPx := hide HP.out
        go_wp2
        go_loopw [4, 6] (fun ov kv wr => ∃ (k : Nat) (o : List (List UInt8 × Nat)), k ≤ U.size ∧ kv = .int .i64 k ∧ wr.ownsRow w.heap.size 61 2 ov o.length (rcells o) ∧ Below w.heap.size w wr ∧ Below w1.heap.size w1 wr ∧ o.length ≤ 300 ∧ Hid (o.Perm (Tur.places (ws.take i) ++ (List.range k).map fun x => (u, x))) ∧ Hid (Tur.Sp o)) (fun _ kv _ => U.size - (intOf kv).toNat)
        case atStart => exact ⟨0, o, by omega, rfl, hro, hbx, hb2, hol, by simpa using HP, HSp⟩
        case round =>
          clear hro hbx hb2 hol HP HSp hpl hPx
          obtain ⟨k, o, hk, rfl, hro, hbx, hb2, hol, HP, HSp⟩ := hrel
          have hcu := (hb2.cell (p := ⟨g, i, none⟩) hg1).trans HC0.out
          by_cases hlk : k < U.size
          · obtain ⟨ao, capo, rfl⟩ := owns_slice hro
            rename World => wm
            have HRO := hide hro
            have hk3 : k < 300 := by omega
            clear hro
            go_wp2_with fail
            go_loopw [8, 9, 10] (fun nv dv jv wr => ∃ (j : Nat) (d : Bool) (n : List (List UInt8 × Nat)), j ≤ o.length ∧ jv = .int .i64 j ∧ dv = .bool d ∧ wr.ownsRow (wm.heap.size + 1) 61 2 nv n.length (rcells n) ∧ Below (wm.heap.size + 1) (wm.alloc (.cells #[.string U, .int .i64 k] 61)) wr ∧ Hid (Tur.Ins (u, k) o j d n)) (fun _ _ jv _ => o.length - (intOf jv).toNat)
            case atStart => exact ⟨0, false, [], by omega, rfl, rfl, World.ownsRow_nil _ _ _ _, Below.refl _ _, hide (Tur.Ins.start _ _)⟩
            case round =>
              obtain ⟨j, d, n, hj, rfl, rfl, hrn, hbw, HI⟩ := hrel
              have hnlen := HI.out.length hj
              have hdle : d.toNat ≤ 1 := Bool.toNat_le d
              have hsz1 : wm.heap.size + 1 ≤ wr.heap.size := by have := hbw.size; simpa using this
              have hblk : wr.heap[wm.heap.size]? = some (.cells #[.string U, .int .i64 k] 61 (0, 0)) := by
                rw [hbw.block _ (by omega)]
                exact heap_alloc_new _ _
              have c1 := cell_here hblk (j := 0) (v := .string U) rfl
              have c2 := cell_here hblk (j := 1) (v := .int .i64 k) rfl
              have HB := hide hblk
              clear hblk
              by_cases hlj : j < o.length
              · obtain ⟨p, hp⟩ : ∃ p, o[j]? = some p := ⟨_, List.getElem?_eq_getElem hlj⟩
                obtain ⟨go, capo', hv, hgo, hgb, hp1, hp2⟩ := round_cells HRO.out rfl hp
                simp only [Value.slice.injEq] at hv
                obtain ⟨rfl, _, rfl⟩ := hv
                obtain ⟨V, hV⟩ : ∃ V : ByteArray, Value.string V = strV p.1 := ⟨_, rfl⟩
                rw [← hV] at hp1
                have hgo' : (⟨go, j * 2, none⟩ : Addr).block < wm.heap.size + 1 := by show go < _; omega
                have hgo2 : (⟨go, j * 2 + 1, none⟩ : Addr).block < wm.heap.size + 1 := by show go < _; omega
                have c3 : wr.cell? ⟨go, j * 2, none⟩ = some (.string V) := by
                  rw [hbw.cell hgo']
                  exact Lib.cell?_alloc_some _ hp1
                have c4 : wr.cell? ⟨go, j * 2 + 1, none⟩ = some (.int .i64 p.2) := by
                  rw [hbw.cell hgo2]
                  exact Lib.cell?_alloc_some _ hp2
                clear hp1 hp2 hgo' hgo2
                obtain ⟨b, hb⟩ : ∃ b : Bool, b = true ↔ Tur.LtP (u, k) p := by
                  by_cases h : Tur.LtP (u, k) p
                  · exact ⟨true, fun _ => h, fun _ => rfl⟩
                  · exact ⟨false, fun e => (Bool.false_ne_true e).elim, fun h' => absurd h' h⟩
                have hpm := HP.out.mem_iff.1 (List.mem_of_getElem? hp)
                have hpin : p.2 < p.1.length ∧ p.1.length ≤ 300 := place_small HS.out hs HU.out (by rw [← HUL.out]; exact hk) hpm
                have hA : ∀ W, Calls Try.prog 37 #[.agg #[.string U, .int .i64 k], .agg #[.string V, .int .i64 p.2]] W fun e w' => e = .returned (.bool b) ∧ Below W.heap.size W w' := fun W => by
                  have := ahead_any (u, k) p W (by rw [← HUL.out]; exact hlk) (by rw [← HUL.out]; omega) hpin.1 hpin.2 b hb
                  unfold rv at this
                  rw [← hV] at this
                  simp only [strV] at this
                  rw [← HUU.out] at this
                  exact this
                have HA := hide hA
                have HBB := hide hb
                have HV := hide hV
                have HPP := hide hp
                clear hA hb hV hp hpm hpin
                cases d with
                | true =>
                  have hrn1 := hrn
                  go_wp2_with fail
                  go_quiet (fail)
                  go_wp2_with (at_builtin; refine wpList_append_own _ rfl _ _ 59 rfl (wm.heap.size + 1) 61 i0 (.agg #[.string ByteArray.empty, .int .i64 0]) 2 24 Try.underlying59 hi hz0 hz1 hz2 rfl (by decide) _ _ _ rfl ((owns_drewN hrn1 _).alloc _) ⟨wr.heap.size, 0, none⟩ 1 1 [.string V, .int .i64 p.2] rfl rfl (cell_two_new _ _ _ _) (two_one _ _) (by unfold maxLen; omega) (by omega) (Nat.le_trans hsz1 (World.grownBy_alloc _ _ none).size) ?_; intro v' w3 hown hgrow hnil)
                  go_roundw
                  case rel => exact ⟨j + 1, true, n ++ [p], by omega, by go_num, rfl, by rw [rcells_snoc, List.length_append, ← HV.out]; exact hown, ((below_drewN hbw _).alloc hsz1 _).grown hgrow (by simp; omega) (fun q hq => (hrn.lt q hq).1), hide (HI.out.rest HPP.out)⟩
                  case measure => simp [intOf]; omega
                | false =>
                  go_wp2_with fail
                  go_region_held3 (fun w' => w'.cell? ⟨wm.heap.size, 0, none⟩ = some (.string U) ∧ w'.cell? ⟨wm.heap.size, 1, none⟩ = some (.int .i64 k) ∧ w'.cell? ⟨go, j * 2, none⟩ = some (.string V) ∧ w'.cell? ⟨go, j * 2 + 1, none⟩ = some (.int .i64 p.2)) (go_keep) (first | (go_at_call 37; refine (HA.out _).mono ?_; rintro e w2 ⟨rfl, hb3⟩; have c5 := (hb3.cell (p := ⟨wm.heap.size, 0, none⟩) (by show wm.heap.size < wr.heap.size; omega)).trans c1; have c6 := (hb3.cell (p := ⟨wm.heap.size, 1, none⟩) (by show wm.heap.size < wr.heap.size; omega)).trans c2; have c7 := (hb3.cell (p := ⟨go, j * 2, none⟩) (by show go < wr.heap.size; omega)).trans c3; have c8 := (hb3.cell (p := ⟨go, j * 2 + 1, none⟩) (by show go < wr.heap.size; omega)).trans c4))
                  clear c1 c2 c3 c4
                  have hrn2 : w2.ownsRow (wm.heap.size + 1) 61 2 u8 n.length (rcells n) := owns_below (owns_drewN hrn 1) hb3
                  have hbw2 : Below (wm.heap.size + 1) (wm.alloc (.cells #[.string U, .int .i64 k] 61)) w2 := (below_drewN hbw 1).trans (hb3.mono hsz1)
                  have hsz2 : wm.heap.size + 1 ≤ w2.heap.size := by have := hbw2.size; simpa using this
                  cases b with
                  | true =>
                    go_wp2_with (first
                      | (at_builtin; refine wpList_append_own _ rfl _ _ 59 rfl (wm.heap.size + 1) 61 i0 (.agg #[.string ByteArray.empty, .int .i64 0]) 2 24 Try.underlying59 hi hz0 hz1 hz2 rfl (by decide) _ _ _ rfl (hrn2.alloc _) ⟨w2.heap.size, 0, none⟩ 1 1 [.string U, .int .i64 k] rfl rfl (cell_two_new _ _ _ _) (two_one _ _) (by unfold maxLen; omega) (by omega) (Nat.le_trans hsz2 (World.grownBy_alloc _ _ none).size) ?_; intro v3 w3 hown3 hgrow3 hnil3; have hbw3 := (hbw2.alloc hsz2 _).grown hgrow3 (Nat.le_trans hsz2 (World.grownBy_alloc _ _ none).size) (fun q hq => (hrn2.lt q hq).1); have hsz3 : wm.heap.size + 1 ≤ w3.heap.size := (by have := hbw3.size; simpa using this); have c9 : w3.cell? ⟨go, j * 2, none⟩ = some (.string V) := (hbw3.cell (by show go < _; omega)).trans ((hbw2.cell (by show go < _; omega)).symm.trans c7); have c10 : w3.cell? ⟨go, j * 2 + 1, none⟩ = some (.int .i64 p.2) := (hbw3.cell (by show go < _; omega)).trans ((hbw2.cell (by show go < _; omega)).symm.trans c8))
                      | (at_builtin; refine wpList_append_own _ rfl _ _ 59 rfl (wm.heap.size + 1) 61 i0 (.agg #[.string ByteArray.empty, .int .i64 0]) 2 24 Try.underlying59 hi hz0 hz1 hz2 rfl (by decide) _ _ _ rfl (hown3.alloc _) ⟨w3.heap.size, 0, none⟩ 1 1 [.string V, .int .i64 p.2] rfl rfl (cell_two_new _ _ _ _) (two_one _ _) (by unfold maxLen; omega) (by omega) (Nat.le_trans hsz3 (World.grownBy_alloc _ _ none).size) ?_; intro v4 w4 hown4 hgrow4 hnil4))
                    go_roundw
                    case rel =>
                      refine ⟨j + 1, true, n ++ [(u, k)] ++ [p], by omega, by go_num, rfl, ?_, (hbw3.alloc hsz3 _).grown hgrow4 (Nat.le_trans hsz3 (World.grownBy_alloc _ _ none).size) (fun q hq => (hown3.lt q hq).1), hide (HI.out.here HPP.out (HBB.out.1 rfl))⟩
                      rw [rcells_snoc, rcells_snoc, List.length_append, List.length_append, ← HV.out]
                      simp only [strV]
                      rw [← HUU.out]
                      exact hown4
                    case measure => simp [intOf]; omega
                  | false =>
                    go_wp2_with (at_builtin; refine wpList_append_own _ rfl _ _ 59 rfl (wm.heap.size + 1) 61 i0 (.agg #[.string ByteArray.empty, .int .i64 0]) 2 24 Try.underlying59 hi hz0 hz1 hz2 rfl (by decide) _ _ _ rfl (hrn2.alloc _) ⟨w2.heap.size, 0, none⟩ 1 1 [.string V, .int .i64 p.2] rfl rfl (cell_two_new _ _ _ _) (two_one _ _) (by unfold maxLen; omega) (by omega) (Nat.le_trans hsz2 (World.grownBy_alloc _ _ none).size) ?_; intro v' w3 hown hgrow hnil)
                    go_roundw
                    case rel => exact ⟨j + 1, false, n ++ [p], by omega, by go_num, rfl, by rw [rcells_snoc, List.length_append, ← HV.out]; exact hown, (hbw2.alloc hsz2 _).grown hgrow (by simp; omega) (fun q hq => (hrn2.lt q hq).1), hide (HI.out.past HPP.out (fun h => by cases HBB.out.2 h))⟩
                    case measure => simp [intOf]; omega
              · have hjo : j = o.length := by omega
                subst hjo
                have hfin := HI.out.done HSp.out
                have hall : (n ++ (if d = true then [] else [(u, k)])).Perm (Tur.places (ws.take i) ++ (List.range (k + 1)).map fun x => (u, x)) := by
                  refine hfin.1.trans ?_
                  rw [List.range_succ, List.map_append, ← List.append_assoc]
                  exact HP.out.append_right _
                have hlen : (n ++ (if d = true then [] else [(u, k)])).length ≤ 300 := by
                  rw [hall.length_eq, List.length_append, List.length_map, List.length_range]
                  omega
                have HFN := hide hfin
                have HAL := hide hall
                have HLN := hide hlen
                have hbw' : Below w.heap.size w wr := (hbx.alloc hbx.size _).trans (hbw.mono (by have := hbx.size; simp; omega))
                have hbv' : Below w1.heap.size w1 wr := (hb2.alloc hb2.size _).trans (hbw.mono (by have := hb2.size; simp; omega))
                clear hfin hall hlen
                cases d with
                | true =>
                  go_wp2
                  go_roundw
                  case rel => exact ⟨k + 1, n, by omega, by go_num, owns_lower hrn (by have := hbx.size; omega), hbw', hbv', by simpa using HLN.out, by simpa using HAL, hide (by simpa using HFN.out.2)⟩
                  case measure => simp [intOf]; omega
                | false =>
                  go_wp2_with (at_builtin; refine wpList_append_own _ rfl _ _ 59 rfl (wm.heap.size + 1) 61 i0 (.agg #[.string ByteArray.empty, .int .i64 0]) 2 24 Try.underlying59 hi hz0 hz1 hz2 rfl (by decide) _ _ _ rfl (hrn.alloc _) ⟨wr.heap.size, 0, none⟩ 1 1 [.string U, .int .i64 k] rfl rfl (cell_two_new _ _ _ _) (two_one _ _) (by unfold maxLen; omega) (by omega) (Nat.le_trans hsz1 (World.grownBy_alloc _ _ none).size) ?_; intro v' w3 hown hgrow hnil)
                  go_roundw
                  case rel =>
                    refine ⟨k + 1, n ++ [(u, k)], by omega, by go_num, ?_, (hbw'.alloc hbw'.size _).grown hgrow (Nat.le_trans hbw'.size (World.grownBy_alloc _ _ none).size) (fun q hq => by have := (hrn.lt q hq).1; have := hbx.size; omega), (hbv'.alloc hbv'.size _).grown hgrow (Nat.le_trans hbv'.size (World.grownBy_alloc _ _ none).size) (fun q hq => by have := (hrn.lt q hq).1; have := hb2.size; omega), by simpa using HLN.out, by simpa using HAL, hide (by simpa using HFN.out.2)⟩
                    rw [rcells_snoc, List.length_append]
                    simp only [strV]
                    rw [← HUU.out]
                    exact owns_lower hown (by have := hbx.size; omega)
                  case measure => simp [intOf]; omega
          · have hkU : k = U.size := by omega
            go_wp2
            go_roundw
            case rel =>
              refine ⟨i + 1, o, by omega, by go_num, hro, hbx, hb2, hol, ?_, HSp⟩
              apply hide
              rw [Tur.places_next HU.out, ← HUL.out, ← hkU]
              exact HP.out
            case measure => simp [intOf]; omega
      · have hiw : i = ws.length := by omega
        have hP2 : o.Perm (Tur.places ws) := by
          have := HP.out
          rwa [hiw, List.take_length] at this
        subst hiw
        have hT := hide (Tur.turned_of hP2 HSp.out)
        have hin : Hid (∀ p ∈ o, p.2 < p.1.length ∧ p.1.length ≤ 300) := fun p hp => by
          have h1 := Tur.mem_places (hP2.mem_iff.1 hp)
          refine ⟨h1.2, ?_⟩
          have := (List.sublist_flatten_of_mem h1.1).length_le
          rw [HS.out] at this
          omega
        obtain ⟨ao, capo, rfl⟩ := owns_slice hro
        have HRO := hide hro
        rename World => wm
        clear hro hP2
        go_wp2_with fail
        go_loopw [11, 12] (fun tv jv wr => ∃ (j : Nat) (tb : ByteArray), j ≤ o.length ∧ jv = .int .i64 j ∧ tv = .string tb ∧ tb.size = j ∧ Hid (tb.data.toList = (o.take j).map fun p => Tur.ah p.1 p.2) ∧ Below wm.heap.size wm wr) (fun _ jv _ => o.length - (intOf jv).toNat)
        case atStart => exact ⟨0, ⟨#[]⟩, by omega, rfl, rfl, rfl, hide rfl, Below.refl _ _⟩
        case round =>
          obtain ⟨j, tb, hj, rfl, rfl, htb, HT, hbw⟩ := hrel
          by_cases hlj : j < o.length
          · obtain ⟨p, hp⟩ : ∃ p, o[j]? = some p := ⟨_, List.getElem?_eq_getElem hlj⟩
            obtain ⟨go, capo', hv, hgo, hgb, hp1, hp2⟩ := round_cells HRO.out rfl hp
            simp only [Value.slice.injEq] at hv
            obtain ⟨rfl, _, rfl⟩ := hv
            obtain ⟨V, hV⟩ : ∃ V : ByteArray, Value.string V = strV p.1 := ⟨_, rfl⟩
            rw [← hV] at hp1
            have c3 := (hbw.cell (p := ⟨go, j * 2, none⟩) hgo).trans hp1
            have c4 := (hbw.cell (p := ⟨go, j * 2 + 1, none⟩) hgo).trans hp2
            have hsm := hin.out p (List.mem_of_getElem? hp)
            have hVl : V.data.toList = p.1 := by
              simp only [strV, Value.string.injEq] at hV
              rw [hV]
            have hVs : V.size = p.1.length := by rw [Lib.size_eq, hVl]
            rw [← hVs] at hsm
            have HV := hide hV
            have HVl := hide hVl
            have HPP := hide hp
            clear hV hVl hp hp1 hp2 hVs
            obtain ⟨r, hr⟩ : ∃ r, r = (p.2 + V.size - 1) % V.size := ⟨_, rfl⟩
            have hrl : r < V.size := by rw [hr]; exact Nat.mod_lt _ (by omega)
            have hz : ¬ ((V.size : Int) = 0) := by omega
            have hz' : ¬ (V.size = 0) := by omega
            have hR := hide hr
            have hq : ((p.2 : Int) + (V.size : Int) - 1) = ((p.2 + V.size - 1 : Nat) : Int) := by omega
            have hm1 : ((p.2 : Int) + (V.size : Int) - 1) % (V.size : Int) = (r : Int) := by rw [hq, hr]; exact (Int.natCast_emod _ _).symm
            have hm2 : ((p.2 : Int) + (V.size : Int) - 1).tmod (V.size : Int) = (r : Int) := by rw [hq, hr]; exact (Int.ofNat_tmod _ _).symm
            have hm3 : (IntKind.i64.wrap (IntKind.i64.wrap ((p.2 : Int) + (V.size : Int)) - 1)).tmod (V.size : Int) = (r : Int) := by
              have e1 : IntKind.i64.wrap ((p.2 : Int) + (V.size : Int)) = (p.2 : Int) + (V.size : Int) := by
                rw [← Int.natCast_add]
                exact wrap_nat _ (by omega)
              have e2 : IntKind.i64.wrap ((p.2 : Int) + (V.size : Int) - 1) = (p.2 : Int) + (V.size : Int) - 1 := by
                rw [hq]
                exact wrap_nat _ (by omega)
              rw [e1, e2, hm2]
            have hdv : ∀ W, Sem.run Try.prog (Op.intDiv .rem .i64 (IntKind.i64.wrap (IntKind.i64.wrap ((p.2 : Int) + (V.size : Int)) - 1)) (V.size : Int)) W = .ok (.int .i64 (r : Int)) W := fun W => by
              unfold Op.intDiv
              rw [if_neg hz, hm3]
              rfl
            have hr1 : (0 : Int) ≤ (r : Int) := by omega
            have hr2 : (r : Int) < (V.size : Int) := by omega
            clear hr hq
            go_wp2_with fail
            generalize hW1 : wr.alloc (Obj.cells #[.string V, .int .i64 p.2] 61) = W1
            have hh : W1.heap[wr.heap.size]? = some (.cells #[.string V, .int .i64 p.2] 61 (0, 0)) := by rw [← hW1]; exact heap_alloc_new _ _
            have c5 := cell_here hh (j := 0) (v := .string V) rfl
            have c6 := cell_here hh (j := 1) (v := .int .i64 p.2) rfl
            have hsz : W1.heap.size = wr.heap.size + 1 := by rw [← hW1]; simp
            have HW1 := hide hW1
            have hne : ∀ o : Obj, (W1.alloc o).cell? ⟨wr.heap.size, 0, none⟩ = some (.string V) := fun o => Lib.cell?_alloc_some _ c5
            have hne2 : ∀ o : Obj, (W1.alloc o).cell? ⟨wr.heap.size, 1, none⟩ = some (.int .i64 p.2) := fun o => Lib.cell?_alloc_some _ c6
            have hcv : (convert 63 9 (.slice (some ⟨W1.heap.size, 0, none⟩) 1 1)).run Try.prog (W1.alloc (.cells #[.int .u8 (V[r].toNat : Int)] 5)).drew = .ok (.string ⟨#[UInt8.ofNat V[r].toNat]⟩) (W1.alloc (.cells #[.int .u8 (V[r].toNat : Int)] 5)).drew := conv_one W1 V[r].toNat 1 (by have := V[r].toNat_lt; omega)
            rw [show UInt8.ofNat V[r].toNat = V[r] by simp] at hcv
            clear hh hW1 c3 c4 hsz
            go_region
            clear hne hne2 hcv hdv hm1 hm2 hm3 c5 c6
            go_wp2
            go_roundw
            case rel =>
              have hb3 : Below wm.heap.size wm W1 := HW1.out ▸ hbw.alloc hbw.size _
              refine ⟨j + 1, tb ++ ⟨#[V[r]]⟩, by omega, by go_num, rfl, by rw [ByteArray.size_append]; show tb.size + 1 = j + 1; omega, ?_, below_drewN (hb3.alloc hb3.size _) 1⟩
              apply hide
              rw [push_data, HT.out, Tur.take_next HPP.out, List.map_append]
              congr 1
              simp only [List.map_cons, List.map_nil, List.cons.injEq, and_true]
              unfold Tur.ah
              rw [← HVl.out, ← Lib.size_eq, ← hR.out]
              exact byte_at V r hrl
            case measure => simp [intOf]; omega
          · have hjo : j = o.length := by omega
            go_wp2
            go_ret
            refine ⟨o.map fun p => Tur.ah p.1 p.2, ?_, hT.out, hbx.trans (hbw.mono hbx.size)⟩
            have := HT.out
            rw [hjo, List.take_length] at this
            rw [← this]
            rfl
end Go.Proofs.Ytkiindkoiomieaa
