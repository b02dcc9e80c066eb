import Derived.Test.YtkiindkoiomieaaGreatDoorJ04
import Derived.Test.YtkiindkoiomieaaGreatDoorJ01
import Derived.Test.YtkiindkoiomieaaGreatDoorJ06
import Derived.Deep.RegionHeld3
import Derived.BigRegion
import Derived.Test.YtkiindkoiomieaaGreatDoorJ05
import Derived.Test.YtkiindkoiomieaaGreatDoorJ02
section
/-
  P4: the walk of twineref's Turn.
-/
namespace Go.Proofs.YtkiindkoiomieaaGreatDoor
open Go.RowKit

theorem Tryz.info123 : (Tryz.prog.info? 123).map (fun i => (i.zero, i.size, i.bytes)) = some (some (.agg #[.string ByteArray.empty, .int .i64 0]), 2, 24) := by kernel_rfl

/-- Places, as they stand in memory. -/
def rcells (o : List (List UInt8 × Nat)) : List Value := o.flatMap fun p => [strV p.1, .int .i64 p.2]

theorem rcells_length (o : List (List UInt8 × Nat)) : (rcells o).length = o.length * 2 := by
  induction o with
  | nil => rfl
  | cons p o ih =>
    rw [rcells, List.flatMap_cons, List.length_append]
    show 2 + (rcells o).length = _
    rw [ih, List.length_cons]
    omega

theorem rcells_at : ∀ {o : List (List UInt8 × Nat)} {j : Nat} {p : List UInt8 × Nat}, o[j]? = some p → (rcells o)[j * 2]? = some (strV p.1) ∧ (rcells o)[j * 2 + 1]? = some (.int .i64 p.2)
  | q :: o, 0, p, h => by
    simp at h
    subst h
    exact ⟨rfl, rfl⟩
  | q :: o, j + 1, p, h => by
    have h' : o[j]? = some p := by simpa using h
    have := rcells_at h'
    have e1 : (j + 1) * 2 = j * 2 + 2 := by omega
    rw [e1]
    exact this
  | [], j, p, h => by simp at h

theorem rcells_snoc (o : List (List UInt8 × Nat)) (p : List UInt8 × Nat) : rcells (o ++ [p]) = rcells o ++ [strV p.1, .int .i64 p.2] := by
  simp [rcells]

/-- A row of places: where its cells lie. -/
theorem round_cells {w : World} {base n : Nat} {v : Value} {o : List (List UInt8 × Nat)} (h : w.ownsRow base 123 2 v n (rcells o)) (hn : n = o.length) {j : Nat} {p : List UInt8 × Nat} (hj : o[j]? = some p) :
    ∃ g cap, v = .slice (some ⟨g, 0, none⟩) o.length cap ∧ g < w.heap.size ∧ base ≤ g ∧ w.cell? ⟨g, j * 2, none⟩ = some (strV p.1) ∧ w.cell? ⟨g, j * 2 + 1, none⟩ = some (.int .i64 p.2) := by
  subst hn
  have hl := (List.getElem?_eq_some_iff.1 hj).1
  rcases h.2 with ⟨_, h2⟩ | ⟨g, cap, cur, rfl, h3, h4, h5, h6, h7, h8⟩
  · omega
  · have hc := rcells_at hj
    refine ⟨g, cap, rfl, heap_lt0 h4, h3, ?_, ?_⟩
    · rw [h.cellAt (j * 2) (by omega)]
      exact hc.1
    · rw [h.cellAt (j * 2 + 1) (by omega)]
      exact hc.2

theorem owns_lower {w : World} {b b' : Nat} {e : TypeId} {size : Nat} {v : Value} {n : Nat} {xs : List Value} (h : w.ownsRow b' e size v n xs) (hb : b ≤ b') : w.ownsRow b e size v n xs := by
  refine ⟨h.1, ?_⟩
  rcases h.2 with h2 | ⟨g, cap, cur, h2, h3, h4⟩
  · exact .inl h2
  · exact .inr ⟨g, cap, cur, h2, Nat.le_trans hb h3, h4⟩

theorem owns_slice {w : World} {b : Nat} {e : TypeId} {size : Nat} {v : Value} {n : Nat} {xs : List Value} (h : w.ownsRow b e size v n xs) : ∃ ao cap, v = .slice ao n cap := by
  rcases h.2 with ⟨h2, h3⟩ | ⟨g, cap, cur, h2, h3, h4⟩
  · exact ⟨none, 0, by rw [h2, h3]⟩
  · exact ⟨_, _, h2⟩

theorem cell_two_new (w : World) (x y : Value) (t : TypeId) : ∀ j u, [x, y][j]? = some u → (w.alloc (.cells #[x, y] t)).cell? ((⟨w.heap.size, 0, none⟩ : Addr).add j) = some u := by
  intro j u hj
  rw [Addr.add_lit, Nat.zero_add]
  refine cell_here (heap_alloc_new _ _) ?_
  simpa using hj

theorem two_one (X : ByteArray) (y : Int) : ∀ u ∈ [Value.string X, .int .i64 y], u.oneCell' = true := by
  intro u hu
  simp at hu
  rcases hu with rfl | rfl <;> rfl

theorem byte_at (s : ByteArray) (k : Nat) (h : k < s.size) : s[k] = s.data.toList[k]?.getD 0 := by
  have h' : k < s.data.toList.length := by simpa using h
  simp only [List.getElem?_eq_getElem h', Option.getD_some]
  rfl

theorem cell_lt {w : World} {g i : Nat} {v : Value} (h : w.cell? ⟨g, i, none⟩ = some v) : g < w.heap.size := by
  rcases Nat.lt_or_ge g w.heap.size with h1 | h1
  · exact h1
  · exfalso
    have : w.heap[g]? = none := Array.getElem?_eq_none h1
    simp [World.cell?, this] at h

theorem places_length (ws : List (List UInt8)) : (Tur.places ws).length = ws.flatten.length := by
  unfold Tur.places
  rw [List.length_flatMap, List.length_flatten]
  congr 1
  simp

theorem places_few {ws : List (List UInt8)} {i : Nat} {u : List UInt8} (h : ws[i]? = some u) : (Tur.places (ws.take i)).length + u.length ≤ ws.flatten.length := by
  have h1 := Tur.places_next h
  have h2 : (Tur.places (ws.take (i + 1))).length ≤ ws.flatten.length := by
    rw [places_length]
    have : (ws.take (i + 1) ++ ws.drop (i + 1)).flatten.length = ws.flatten.length := by rw [List.take_append_drop]
    rw [List.flatten_append, List.length_append] at this
    omega
  rw [h1] at h2
  simpa using h2

theorem place_small {ws : List (List UInt8)} {i k N : Nat} {u : List UInt8} {p : List UInt8 × Nat} (hS : ws.flatten.length = N) (hN : N ≤ 300) (hu : ws[i]? = some u) (hk : k ≤ u.length) (hp : p ∈ Tur.places (ws.take i) ++ (List.range k).map fun x => (u, x)) : p.2 < p.1.length ∧ p.1.length ≤ 300 := by
  have hall : ∀ x ∈ ws, x.length ≤ 300 := fun x hx => by
    have := (List.sublist_flatten_of_mem hx).length_le
    omega
  rcases List.mem_append.1 hp with h | h
  · have := Tur.mem_places h
    exact ⟨this.2, hall _ (List.mem_of_mem_take this.1)⟩
  · simp at h
    obtain ⟨x, hx, rfl⟩ := h
    exact ⟨Nat.lt_of_lt_of_le hx hk, hall _ (List.mem_of_getElem? hu)⟩

set_option maxHeartbeats 2000000 in
set_option maxRecDepth 100000 in
theorem refTurn_any (s : ByteArray) (w : World) (hs : s.size ≤ 300) (ws : List (List UInt8)) (hg : Duv.Good ws) (hf : ws.flatten = s.data.toList) :
    Calls Tryz.prog 86 #[.string s] w fun e w' => ∃ t : List UInt8, e = .returned (strV t) ∧ Tur.Turned ws t ∧ Below w.heap.size w w' := by
  obtain ⟨i0, hi, hz0, hz1, hz2⟩ := info_parts Tryz.info123
  have cF := factors_any s w hs ws hg hf
  have hsum : ws.flatten.length = s.size := by rw [hf, ← Lib.size_eq]
  have CF := hide cF
  have HG := hide hg
  have HF := hide hf
  have HS := hide hsum
  have hfew : ws.length ≤ 300 := by
    have := good_few hg
    rw [hf, ← Lib.size_eq] at this
    omega
  clear cF hg hf hsum
  go_enter Tryz.func86, Tryz.ntmps86
  go_wp2_with (go_at_call 113; refine CF.out.mono ?_; rintro e w1 ⟨v, rfl, hrow, hb1⟩)
  rcases cells_of_owns hrow rfl with ⟨rfl, hws⟩ | ⟨g, cap, rfl, hcell⟩
  · subst hws
    go_wp2
    refine wp_loop_rounds 1 ?_
    rw [rounds_succ]
    go_wp2
    refine wp_loop_rounds 1 ?_
    rw [rounds_succ]
    go_wp2
    go_ret
    exact ⟨[], rfl, Tur.turned_of (o := []) (List.Perm.refl _) List.Pairwise.nil, hb1⟩
  · have HC := hide hcell
    have HR := hide hrow
    clear hcell hrow
    go_wp2
    go_loopw [4, 5] (fun ov iv wr => ∃ (i : Nat) (o : List (List UInt8 × Nat)), i ≤ ws.length ∧ iv = .int .i64 i ∧ wr.ownsRow w.heap.size 123 2 ov o.length (rcells o) ∧ Below w.heap.size w wr ∧ Below w1.heap.size w1 wr ∧ o.length ≤ 300 ∧ Hid (o.Perm (Tur.places (ws.take i))) ∧ Hid (Tur.Sp o)) (fun _ iv _ => ws.length - (intOf iv).toNat)
    case atStart => exact ⟨0, [], by omega, rfl, World.ownsRow_nil _ _ _ _, hb1, Below.refl _ _, by simp, hide (List.Perm.refl _), hide List.Pairwise.nil⟩
    case round =>
      obtain ⟨i, o, hi1, rfl, hro, hbx, hb2, hol, HP, HSp⟩ := hrel
      by_cases hlt : i < ws.length
      · obtain ⟨u, hu⟩ : ∃ u, ws[i]? = some u := ⟨_, List.getElem?_eq_getElem hlt⟩
        have hc0 := HC.out i u hu
        unfold strV at hc0
        have hfw := places_few hu
        rw [HS.out] at hfw
        obtain ⟨U, hU⟩ : ∃ U : ByteArray, U = ⟨u.toArray⟩ := ⟨_, rfl⟩
        have hUl : U.size = u.length := by rw [hU, strV_size]
        have hg1 : g < w1.heap.size := cell_lt hc0
        have hu0 : 0 < u.length := (HG.out.1 u (List.mem_of_getElem? hu)).1
        rw [← hU] at hc0
        rw [← hUl] at hfw hu0
        have HU := hide hu
        have HUU := hide hU
        have HUL := hide hUl
        have HC0 := hide hc0
        clear hu hU hUl hc0
        have hpl := HP.out.length_eq
        have hPx := hide HP.out
        go_wp2
        go_loopw [4, 6] (fun ov kv wr => ∃ (k : Nat) (o : List (List UInt8 × Nat)), k ≤ U.size ∧ kv = .int .i64 k ∧ wr.ownsRow w.heap.size 123 2 ov o.length (rcells o) ∧ Below w.heap.size w wr ∧ Below w1.heap.size w1 wr ∧ o.length ≤ 300 ∧ Hid (o.Perm (Tur.places (ws.take i) ++ (List.range k).map fun x => (u, x))) ∧ Hid (Tur.Sp o)) (fun _ kv _ => U.size - (intOf kv).toNat)
        case atStart => exact ⟨0, o, by omega, rfl, hro, hbx, hb2, hol, by simpa using HP, HSp⟩
        case round =>
          clear hro hbx hb2 hol HP HSp hpl hPx
          obtain ⟨k, o, hk, rfl, hro, hbx, hb2, hol, HP, HSp⟩ := hrel
          have hcu := (hb2.cell (p := ⟨g, i, none⟩) hg1).trans HC0.out
          by_cases hlk : k < U.size
          · obtain ⟨ao, capo, rfl⟩ := owns_slice hro
            rename World => wm
            have HRO := hide hro
            have hk3 : k < 300 := by omega
            clear hro
            go_wp2_with fail
            go_loopw [8, 9, 10] (fun nv dv jv wr => ∃ (j : Nat) (d : Bool) (n : List (List UInt8 × Nat)), j ≤ o.length ∧ jv = .int .i64 j ∧ dv = .bool d ∧ wr.ownsRow (wm.heap.size + 1) 123 2 nv n.length (rcells n) ∧ Below (wm.heap.size + 1) (wm.alloc (.cells #[.string U, .int .i64 k] 123)) wr ∧ Hid (Tur.Ins (u, k) o j d n)) (fun _ _ jv _ => o.length - (intOf jv).toNat)
            case atStart => exact ⟨0, false, [], by omega, rfl, rfl, World.ownsRow_nil _ _ _ _, Below.refl _ _, hide (Tur.Ins.start _ _)⟩
            case round =>
              obtain ⟨j, d, n, hj, rfl, rfl, hrn, hbw, HI⟩ := hrel
              have hnlen := HI.out.length hj
              have hdle : d.toNat ≤ 1 := Bool.toNat_le d
              have hsz1 : wm.heap.size + 1 ≤ wr.heap.size := by have := hbw.size; simpa using this
              have hblk : wr.heap[wm.heap.size]? = some (.cells #[.string U, .int .i64 k] 123 (0, 0)) := by
                rw [hbw.block _ (by omega)]
                exact heap_alloc_new _ _
              have c1 := cell_here hblk (j := 0) (v := .string U) rfl
              have c2 := cell_here hblk (j := 1) (v := .int .i64 k) rfl
              have HB := hide hblk
              clear hblk
              by_cases hlj : j < o.length
              · obtain ⟨p, hp⟩ : ∃ p, o[j]? = some p := ⟨_, List.getElem?_eq_getElem hlj⟩
                obtain ⟨go, capo', hv, hgo, hgb, hp1, hp2⟩ := round_cells HRO.out rfl hp
                simp only [Value.slice.injEq] at hv
                obtain ⟨rfl, _, rfl⟩ := hv
                obtain ⟨V, hV⟩ : ∃ V : ByteArray, Value.string V = strV p.1 := ⟨_, rfl⟩
                rw [← hV] at hp1
                have hgo' : (⟨go, j * 2, none⟩ : Addr).block < wm.heap.size + 1 := by show go < _; omega
                have hgo2 : (⟨go, j * 2 + 1, none⟩ : Addr).block < wm.heap.size + 1 := by show go < _; omega
                have c3 : wr.cell? ⟨go, j * 2, none⟩ = some (.string V) := by
                  rw [hbw.cell hgo']
                  exact Lib.cell?_alloc_some _ hp1
                have c4 : wr.cell? ⟨go, j * 2 + 1, none⟩ = some (.int .i64 p.2) := by
                  rw [hbw.cell hgo2]
                  exact Lib.cell?_alloc_some _ hp2
                clear hp1 hp2 hgo' hgo2
                obtain ⟨b, hb⟩ : ∃ b : Bool, b = true ↔ Tur.LtP (u, k) p := by
                  by_cases h : Tur.LtP (u, k) p
                  · exact ⟨true, fun _ => h, fun _ => rfl⟩
                  · exact ⟨false, fun e => (Bool.false_ne_true e).elim, fun h' => absurd h' h⟩
                have hpm := HP.out.mem_iff.1 (List.mem_of_getElem? hp)
                have hpin : p.2 < p.1.length ∧ p.1.length ≤ 300 := place_small HS.out hs HU.out (by rw [← HUL.out]; exact hk) hpm
                have hA : ∀ W, Calls Tryz.prog 114 #[.agg #[.string U, .int .i64 k], .agg #[.string V, .int .i64 p.2]] W fun e w' => e = .returned (.bool b) ∧ Below W.heap.size W w' := fun W => by
                  have := ahead_any (u, k) p W (by rw [← HUL.out]; exact hlk) (by rw [← HUL.out]; omega) hpin.1 hpin.2 b hb
                  unfold rv at this
                  rw [← hV] at this
                  simp only [strV] at this
                  rw [← HUU.out] at this
                  exact this
                have HA := hide hA
                have HBB := hide hb
                have HV := hide hV
                have HPP := hide hp
                clear hA hb hV hp hpm hpin
                cases d with
                | true =>
                  have hrn1 := hrn
                  go_wp2_with fail
                  go_quiet (fail)
                  go_wp2_with (at_builtin; refine wpList_append_own _ rfl _ _ 121 rfl (wm.heap.size + 1) 123 i0 (.agg #[.string ByteArray.empty, .int .i64 0]) 2 24 Tryz.underlying121 hi hz0 hz1 hz2 rfl (by decide) _ _ _ rfl ((owns_drewN hrn1 _).alloc _) ⟨wr.heap.size, 0, none⟩ 1 1 [.string V, .int .i64 p.2] rfl rfl (cell_two_new _ _ _ _) (two_one _ _) (by unfold maxLen; omega) (by omega) (Nat.le_trans hsz1 (World.grownBy_alloc _ _ none).size) ?_; intro v' w3 hown hgrow hnil)
                  go_roundw
                  case rel => exact ⟨j + 1, true, n ++ [p], by omega, by go_num, rfl, by rw [rcells_snoc, List.length_append, ← HV.out]; exact hown, ((below_drewN hbw _).alloc hsz1 _).grown hgrow (by simp; omega) (fun q hq => (hrn.lt q hq).1), hide (HI.out.rest HPP.out)⟩
                  case measure => simp [intOf]; omega
                | false =>
                  go_wp2_with fail
                  go_region_held3 (fun w' => w'.cell? ⟨wm.heap.size, 0, none⟩ = some (.string U) ∧ w'.cell? ⟨wm.heap.size, 1, none⟩ = some (.int .i64 k) ∧ w'.cell? ⟨go, j * 2, none⟩ = some (.string V) ∧ w'.cell? ⟨go, j * 2 + 1, none⟩ = some (.int .i64 p.2)) (go_keep) (first | (go_at_call 114; refine (HA.out _).mono ?_; rintro e w2 ⟨rfl, hb3⟩; have c5 := (hb3.cell (p := ⟨wm.heap.size, 0, none⟩) (by show wm.heap.size < wr.heap.size; omega)).trans c1; have c6 := (hb3.cell (p := ⟨wm.heap.size, 1, none⟩) (by show wm.heap.size < wr.heap.size; omega)).trans c2; have c7 := (hb3.cell (p := ⟨go, j * 2, none⟩) (by show go < wr.heap.size; omega)).trans c3; have c8 := (hb3.cell (p := ⟨go, j * 2 + 1, none⟩) (by show go < wr.heap.size; omega)).trans c4))
                  clear c1 c2 c3 c4
                  have hrn2 : w2.ownsRow (wm.heap.size + 1) 123 2 u8 n.length (rcells n) := owns_below (owns_drewN hrn 1) hb3
                  have hbw2 : Below (wm.heap.size + 1) (wm.alloc (.cells #[.string U, .int .i64 k] 123)) w2 := (below_drewN hbw 1).trans (hb3.mono hsz1)
                  have hsz2 : wm.heap.size + 1 ≤ w2.heap.size := by have := hbw2.size; simpa using this
                  cases b with
                  | true =>
                    go_wp2_with (first
                      | (at_builtin; refine wpList_append_own _ rfl _ _ 121 rfl (wm.heap.size + 1) 123 i0 (.agg #[.string ByteArray.empty, .int .i64 0]) 2 24 Tryz.underlying121 hi hz0 hz1 hz2 rfl (by decide) _ _ _ rfl (hrn2.alloc _) ⟨w2.heap.size, 0, none⟩ 1 1 [.string U, .int .i64 k] rfl rfl (cell_two_new _ _ _ _) (two_one _ _) (by unfold maxLen; omega) (by omega) (Nat.le_trans hsz2 (World.grownBy_alloc _ _ none).size) ?_; intro v3 w3 hown3 hgrow3 hnil3; have hbw3 := (hbw2.alloc hsz2 _).grown hgrow3 (Nat.le_trans hsz2 (World.grownBy_alloc _ _ none).size) (fun q hq => (hrn2.lt q hq).1); have hsz3 : wm.heap.size + 1 ≤ w3.heap.size := (by have := hbw3.size; simpa using this); have c9 : w3.cell? ⟨go, j * 2, none⟩ = some (.string V) := (hbw3.cell (by show go < _; omega)).trans ((hbw2.cell (by show go < _; omega)).symm.trans c7); have c10 : w3.cell? ⟨go, j * 2 + 1, none⟩ = some (.int .i64 p.2) := (hbw3.cell (by show go < _; omega)).trans ((hbw2.cell (by show go < _; omega)).symm.trans c8))
                      | (at_builtin; refine wpList_append_own _ rfl _ _ 121 rfl (wm.heap.size + 1) 123 i0 (.agg #[.string ByteArray.empty, .int .i64 0]) 2 24 Tryz.underlying121 hi hz0 hz1 hz2 rfl (by decide) _ _ _ rfl (hown3.alloc _) ⟨w3.heap.size, 0, none⟩ 1 1 [.string V, .int .i64 p.2] rfl rfl (cell_two_new _ _ _ _) (two_one _ _) (by unfold maxLen; omega) (by omega) (Nat.le_trans hsz3 (World.grownBy_alloc _ _ none).size) ?_; intro v4 w4 hown4 hgrow4 hnil4))
                    go_roundw
                    case rel =>
                      refine ⟨j + 1, true, n ++ [(u, k)] ++ [p], by omega, by go_num, rfl, ?_, (hbw3.alloc hsz3 _).grown hgrow4 (Nat.le_trans hsz3 (World.grownBy_alloc _ _ none).size) (fun q hq => (hown3.lt q hq).1), hide (HI.out.here HPP.out (HBB.out.1 rfl))⟩
                      rw [rcells_snoc, rcells_snoc, List.length_append, List.length_append, ← HV.out]
                      simp only [strV]
                      rw [← HUU.out]
                      exact hown4
                    case measure => simp [intOf]; omega
                  | false =>
                    go_wp2_with (at_builtin; refine wpList_append_own _ rfl _ _ 121 rfl (wm.heap.size + 1) 123 i0 (.agg #[.string ByteArray.empty, .int .i64 0]) 2 24 Tryz.underlying121 hi hz0 hz1 hz2 rfl (by decide) _ _ _ rfl (hrn2.alloc _) ⟨w2.heap.size, 0, none⟩ 1 1 [.string V, .int .i64 p.2] rfl rfl (cell_two_new _ _ _ _) (two_one _ _) (by unfold maxLen; omega) (by omega) (Nat.le_trans hsz2 (World.grownBy_alloc _ _ none).size) ?_; intro v' w3 hown hgrow hnil)
                    go_roundw
                    case rel => exact ⟨j + 1, false, n ++ [p], by omega, by go_num, rfl, by rw [rcells_snoc, List.length_append, ← HV.out]; exact hown, (hbw2.alloc hsz2 _).grown hgrow (by simp; omega) (fun q hq => (hrn2.lt q hq).1), hide (HI.out.past HPP.out (fun h => by cases HBB.out.2 h))⟩
                    case measure => simp [intOf]; omega
              · have hjo : j = o.length := by omega
                subst hjo
                have hfin := HI.out.done HSp.out
                have hall : (n ++ (if d = true then [] else [(u, k)])).Perm (Tur.places (ws.take i) ++ (List.range (k + 1)).map fun x => (u, x)) := by
                  refine hfin.1.trans ?_
                  rw [List.range_succ, List.map_append, ← List.append_assoc]
                  exact HP.out.append_right _
                have hlen : (n ++ (if d = true then [] else [(u, k)])).length ≤ 300 := by
                  rw [hall.length_eq, List.length_append, List.length_map, List.length_range]
                  omega
                have HFN := hide hfin
                have HAL := hide hall
                have HLN := hide hlen
                have hbw' : Below w.heap.size w wr := (hbx.alloc hbx.size _).trans (hbw.mono (by have := hbx.size; simp; omega))
                have hbv' : Below w1.heap.size w1 wr := (hb2.alloc hb2.size _).trans (hbw.mono (by have := hb2.size; simp; omega))
                clear hfin hall hlen
                cases d with
                | true =>
                  go_wp2
                  go_roundw
                  case rel => exact ⟨k + 1, n, by omega, by go_num, owns_lower hrn (by have := hbx.size; omega), hbw', hbv', by simpa using HLN.out, by simpa using HAL, hide (by simpa using HFN.out.2)⟩
                  case measure => simp [intOf]; omega
                | false =>
                  go_wp2_with (at_builtin; refine wpList_append_own _ rfl _ _ 121 rfl (wm.heap.size + 1) 123 i0 (.agg #[.string ByteArray.empty, .int .i64 0]) 2 24 Tryz.underlying121 hi hz0 hz1 hz2 rfl (by decide) _ _ _ rfl (hrn.alloc _) ⟨wr.heap.size, 0, none⟩ 1 1 [.string U, .int .i64 k] rfl rfl (cell_two_new _ _ _ _) (two_one _ _) (by unfold maxLen; omega) (by omega) (Nat.le_trans hsz1 (World.grownBy_alloc _ _ none).size) ?_; intro v' w3 hown hgrow hnil)
                  go_roundw
                  case rel =>
                    refine ⟨k + 1, n ++ [(u, k)], by omega, by go_num, ?_, (hbw'.alloc hbw'.size _).grown hgrow (Nat.le_trans hbw'.size (World.grownBy_alloc _ _ none).size) (fun q hq => by have := (hrn.lt q hq).1; have := hbx.size; omega), (hbv'.alloc hbv'.size _).grown hgrow (Nat.le_trans hbv'.size (World.grownBy_alloc _ _ none).size) (fun q hq => by have := (hrn.lt q hq).1; have := hb2.size; omega), by simpa using HLN.out, by simpa using HAL, hide (by simpa using HFN.out.2)⟩
                    rw [rcells_snoc, List.length_append]
                    simp only [strV]
                    rw [← HUU.out]
                    exact owns_lower hown (by have := hbx.size; omega)
                  case measure => simp [intOf]; omega
          · have hkU : k = U.size := by omega
            go_wp2
            go_roundw
            case rel =>
              refine ⟨i + 1, o, by omega, by go_num, hro, hbx, hb2, hol, ?_, HSp⟩
              apply hide
              rw [Tur.places_next HU.out, ← HUL.out, ← hkU]
              exact HP.out
            case measure => simp [intOf]; omega
      · have hiw : i = ws.length := by omega
        have hP2 : o.Perm (Tur.places ws) := by
          have := HP.out
          rwa [hiw, List.take_length] at this
        subst hiw
        have hT := hide (Tur.turned_of hP2 HSp.out)
        have hin : Hid (∀ p ∈ o, p.2 < p.1.length ∧ p.1.length ≤ 300) := fun p hp => by
          have h1 := Tur.mem_places (hP2.mem_iff.1 hp)
          refine ⟨h1.2, ?_⟩
          have := (List.sublist_flatten_of_mem h1.1).length_le
          rw [HS.out] at this
          omega
        obtain ⟨ao, capo, rfl⟩ := owns_slice hro
        have HRO := hide hro
        rename World => wm
        clear hro hP2
        go_wp2_with fail
        go_loopw [11, 12] (fun tv jv wr => ∃ (j : Nat) (tb : ByteArray), j ≤ o.length ∧ jv = .int .i64 j ∧ tv = .string tb ∧ tb.size = j ∧ Hid (tb.data.toList = (o.take j).map fun p => Tur.ah p.1 p.2) ∧ Below wm.heap.size wm wr) (fun _ jv _ => o.length - (intOf jv).toNat)
        case atStart => exact ⟨0, ⟨#[]⟩, by omega, rfl, rfl, rfl, hide rfl, Below.refl _ _⟩
        case round =>
          obtain ⟨j, tb, hj, rfl, rfl, htb, HT, hbw⟩ := hrel
          by_cases hlj : j < o.length
          · obtain ⟨p, hp⟩ : ∃ p, o[j]? = some p := ⟨_, List.getElem?_eq_getElem hlj⟩
            obtain ⟨go, capo', hv, hgo, hgb, hp1, hp2⟩ := round_cells HRO.out rfl hp
            simp only [Value.slice.injEq] at hv
            obtain ⟨rfl, _, rfl⟩ := hv
            obtain ⟨V, hV⟩ : ∃ V : ByteArray, Value.string V = strV p.1 := ⟨_, rfl⟩
            rw [← hV] at hp1
            have c3 := (hbw.cell (p := ⟨go, j * 2, none⟩) hgo).trans hp1
            have c4 := (hbw.cell (p := ⟨go, j * 2 + 1, none⟩) hgo).trans hp2
            have hsm := hin.out p (List.mem_of_getElem? hp)
            have hVl : V.data.toList = p.1 := by
              simp only [strV, Value.string.injEq] at hV
              rw [hV]
            have hVs : V.size = p.1.length := by rw [Lib.size_eq, hVl]
            rw [← hVs] at hsm
            have HV := hide hV
            have HVl := hide hVl
            have HPP := hide hp
            clear hV hVl hp hp1 hp2 hVs
            obtain ⟨r, hr⟩ : ∃ r, r = (p.2 + V.size - 1) % V.size := ⟨_, rfl⟩
            have hrl : r < V.size := by rw [hr]; exact Nat.mod_lt _ (by omega)
            have hz : ¬ ((V.size : Int) = 0) := by omega
            have hz' : ¬ (V.size = 0) := by omega
            have hR := hide hr
            have hq : ((p.2 : Int) + (V.size : Int) - 1) = ((p.2 + V.size - 1 : Nat) : Int) := by omega
            have hm1 : ((p.2 : Int) + (V.size : Int) - 1) % (V.size : Int) = (r : Int) := by rw [hq, hr]; exact (Int.natCast_emod _ _).symm
            have hm2 : ((p.2 : Int) + (V.size : Int) - 1).tmod (V.size : Int) = (r : Int) := by rw [hq, hr]; exact (Int.ofNat_tmod _ _).symm
            have hm3 : (IntKind.i64.wrap (IntKind.i64.wrap ((p.2 : Int) + (V.size : Int)) - 1)).tmod (V.size : Int) = (r : Int) := by
              have e1 : IntKind.i64.wrap ((p.2 : Int) + (V.size : Int)) = (p.2 : Int) + (V.size : Int) := by
                rw [← Int.natCast_add]
                exact wrap_nat _ (by omega)
              have e2 : IntKind.i64.wrap ((p.2 : Int) + (V.size : Int) - 1) = (p.2 : Int) + (V.size : Int) - 1 := by
                rw [hq]
                exact wrap_nat _ (by omega)
              rw [e1, e2, hm2]
            have hdv : ∀ W, Sem.run Tryz.prog (Op.intDiv .rem .i64 (IntKind.i64.wrap (IntKind.i64.wrap ((p.2 : Int) + (V.size : Int)) - 1)) (V.size : Int)) W = .ok (.int .i64 (r : Int)) W := fun W => by
              unfold Op.intDiv
              rw [if_neg hz, hm3]
              rfl
            have hr1 : (0 : Int) ≤ (r : Int) := by omega
            have hr2 : (r : Int) < (V.size : Int) := by omega
            clear hr hq
            go_wp2_with fail
            generalize hW1 : wr.alloc (Obj.cells #[.string V, .int .i64 p.2] 123) = W1
            have hh : W1.heap[wr.heap.size]? = some (.cells #[.string V, .int .i64 p.2] 123 (0, 0)) := by rw [← hW1]; exact heap_alloc_new _ _
            have c5 := cell_here hh (j := 0) (v := .string V) rfl
            have c6 := cell_here hh (j := 1) (v := .int .i64 p.2) rfl
            have hsz : W1.heap.size = wr.heap.size + 1 := by rw [← hW1]; simp
            have HW1 := hide hW1
            have hne : ∀ o : Obj, (W1.alloc o).cell? ⟨wr.heap.size, 0, none⟩ = some (.string V) := fun o => Lib.cell?_alloc_some _ c5
            have hne2 : ∀ o : Obj, (W1.alloc o).cell? ⟨wr.heap.size, 1, none⟩ = some (.int .i64 p.2) := fun o => Lib.cell?_alloc_some _ c6
            have hcv : (convert 81 9 (.slice (some ⟨W1.heap.size, 0, none⟩) 1 1)).run Tryz.prog (W1.alloc (.cells #[.int .u8 (V[r].toNat : Int)] 5)).drew = .ok (.string ⟨#[UInt8.ofNat V[r].toNat]⟩) (W1.alloc (.cells #[.int .u8 (V[r].toNat : Int)] 5)).drew := conv_one W1 V[r].toNat 1 (by have := V[r].toNat_lt; omega)
            rw [show UInt8.ofNat V[r].toNat = V[r] by simp] at hcv
            clear hh hW1 c3 c4 hsz
            go_region
            clear hne hne2 hcv hdv hm1 hm2 hm3 c5 c6
            go_wp2
            go_roundw
            case rel =>
              have hb3 : Below wm.heap.size wm W1 := HW1.out ▸ hbw.alloc hbw.size _
              refine ⟨j + 1, tb ++ ⟨#[V[r]]⟩, by omega, by go_num, rfl, by rw [ByteArray.size_append]; show tb.size + 1 = j + 1; omega, ?_, below_drewN (hb3.alloc hb3.size _) 1⟩
              apply hide
              rw [push_data, HT.out, Tur.take_next HPP.out, List.map_append]
              congr 1
              simp only [List.map_cons, List.map_nil, List.cons.injEq, and_true]
              unfold Tur.ah
              rw [← HVl.out, ← Lib.size_eq, ← hR.out]
              exact byte_at V r hrl
            case measure => simp [intOf]; omega
          · have hjo : j = o.length := by omega
            go_wp2
            go_ret
            refine ⟨o.map fun p => Tur.ah p.1 p.2, ?_, hT.out, hbx.trans (hbw.mono hbx.size)⟩
            have := HT.out
            rw [hjo, List.take_length] at this
            rw [← this]
            rfl
end Go.Proofs.YtkiindkoiomieaaGreatDoor
end

section
/-
  P4: the walk of nextPlaces.
-/
namespace Go.Proofs.YtkiindkoiomieaaGreatDoor
open Go.RowKit Go.Lib

/-- Numbers, one behind the other. -/
def numV (l : List Nat) : List Value := l.map fun x : Nat => Value.int .i64 (x : Int)

theorem numV_length (l : List Nat) : (numV l).length = l.length := by simp [numV]
theorem numV_snoc (l : List Nat) (x : Nat) : numV (l ++ [x]) = numV l ++ [.int .i64 (x : Int)] := by simp [numV]

set_option maxHeartbeats 2000000 in
set_option maxRecDepth 100000 in
theorem next_places (s : ByteArray) (w : World) (hs : s.size ≤ 300) :
    Calls Tryz.prog 59 #[.string s] w fun e w' => ∃ (v : Value) (ws : List (List UInt8)), e = .returned v ∧ Duv.Good ws ∧ ws.flatten = s.data.toList ∧ w'.ownsRow w.heap.size 3 1 v s.size (numV (Tur.nxt ws 0)) ∧ Below w.heap.size w w' := by
  obtain ⟨i0, hi, hz0, hz1, hz2⟩ := info_parts Tryz.info3
  go_enter Tryz.func59, Tryz.ntmps59
  go_wp2_with fail
  go_at_call 30
  refine (cut_any s w hs).mono ?_
  rintro e w1 ⟨v, ws, rfl, hrow, hb1, hg, hf⟩
  have hsum : ws.flatten.length = s.size := by rw [hf, ← Lib.size_eq]
  have hfew : ws.length ≤ 300 := by
    have := good_few hg
    omega
  have HG := hide hg
  have HF := hide hf
  have HS := hide hsum
  clear hg hf hsum
  rcases cells_of_owns hrow rfl with ⟨rfl, hws⟩ | ⟨g, cap, rfl, hcell⟩
  · subst hws
    have hs0 : s.size = 0 := by have := HS.out; simpa using this.symm
    go_wp2
    refine wp_loop_rounds 1 ?_
    rw [rounds_succ]
    go_wp2
    go_ret
    refine ⟨_, [], rfl, HG.out, HF.out, ?_, hb1⟩
    rw [hs0]
    exact World.ownsRow_nil _ _ _ _
  · have HC := hide hcell
    clear hcell hrow
    go_wp2
    go_loopw [3, 11] (fun nv kv wr => ∃ k : Nat, k ≤ ws.length ∧ kv = .int .i64 k ∧ wr.ownsRow w1.heap.size 3 1 nv (ws.take k).flatten.length (numV (Tur.nxt (ws.take k) 0)) ∧ Below w.heap.size w wr ∧ Below w1.heap.size w1 wr) (fun _ kv _ => ws.length - (intOf kv).toNat)
    case atStart => exact ⟨0, by omega, rfl, World.ownsRow_nil _ _ _ _, hb1, Below.refl _ _⟩
    case round =>
      obtain ⟨k, hk, rfl, hro, hbx, hbv⟩ := hrel
      by_cases hlt : k < ws.length
      · obtain ⟨u, hu⟩ : ∃ u, ws[k]? = some u := ⟨_, List.getElem?_eq_getElem hlt⟩
        have hc0 := HC.out k u hu
        unfold strV at hc0
        have hfw := places_few hu
        rw [HS.out, places_length] at hfw
        obtain ⟨U, hU⟩ : ∃ U : ByteArray, U = ⟨u.toArray⟩ := ⟨_, rfl⟩
        have hUl : U.size = u.length := by rw [hU, strV_size]
        have hg1 : g < w1.heap.size := cell_lt hc0
        have hu0 : 0 < u.length := (HG.out.1 u (List.mem_of_getElem? hu)).1
        rw [← hU] at hc0
        rw [← hUl] at hfw hu0
        have hcu := (hbv.cell (p := ⟨g, k, none⟩) hg1).trans hc0
        obtain ⟨st, hst⟩ : ∃ st, st = (ws.take k).flatten.length := ⟨_, rfl⟩
        rw [← hst] at hfw hro
        obtain ⟨ao, capo, rfl⟩ := owns_slice hro
        obtain ⟨N0, hN0⟩ : ∃ N0, N0 = Tur.nxt (ws.take k) 0 := ⟨_, rfl⟩
        rw [← hN0] at hro
        have HU := hide hu
        have HUL := hide hUl
        have HST := hide hst
        have HN0 := hide hN0
        have hz : ¬ ((U.size : Int) = 0) := by omega
        clear hu hU hUl hc0 hst hN0
        go_wp2
        go_loopw [3, 19] (fun nv iv wr => ∃ i : Nat, i ≤ U.size ∧ iv = .int .i64 i ∧ wr.ownsRow w1.heap.size 3 1 nv (st + i) (numV (N0 ++ (List.range i).map fun x => st + (x + 1) % U.size)) ∧ Below w.heap.size w wr ∧ Below w1.heap.size w1 wr) (fun _ iv _ => U.size - (intOf iv).toNat)
        case atStart => exact ⟨0, by omega, rfl, by simpa using hro, hbx, hbv⟩
        case round =>
          clear hro hbx hbv hcu
          obtain ⟨i, hi1, rfl, hro, hbx, hbv⟩ := hrel
          by_cases hli : i < U.size
          · obtain ⟨r, hr⟩ : ∃ r, r = (i + 1) % U.size := ⟨_, rfl⟩
            have hrl : r < U.size := by rw [hr]; exact Nat.mod_lt _ (by omega)
            have hm1 : ((i : Int) + 1) % (U.size : Int) = (r : Int) := by rw [hr]; simp
            have hm2 : ((i : Int) + 1).tmod (U.size : Int) = (r : Int) := by rw [hr]; exact (Int.ofNat_tmod (i + 1) U.size).symm
            have HR := hide hr
            clear hr
            go_wp2_with (at_builtin; refine wpList_append_own _ rfl _ _ 23 rfl w1.heap.size 3 i0 (.int .i64 0) 1 8 Tryz.underlying23 hi hz0 hz1 hz2 rfl (by decide) _ _ _ rfl (hro.alloc _) ⟨wr.heap.size, 0, none⟩ 1 1 [.int .i64 ((st : Int) + (r : Int))] rfl rfl (cell_one_new _ _ _) (fun x hx => by simp at hx; subst hx; rfl) (by unfold maxLen; omega) (by omega) (Nat.le_trans hbv.size (World.grownBy_alloc _ _ none).size) ?_; intro v' w3 hown hgrow hnil)
            go_roundw
            case rel =>
              refine ⟨i + 1, by omega, by go_num, ?_, (hbx.alloc hbx.size _).grown hgrow (Nat.le_trans hbx.size (World.grownBy_alloc _ _ none).size) (fun j hj => Nat.le_trans hb1.size (hro.lt j hj).1), (hbv.alloc hbv.size _).grown hgrow (Nat.le_trans hbv.size (World.grownBy_alloc _ _ none).size) (fun j hj => (hro.lt j hj).1)⟩
              rw [List.range_succ, List.map_append, List.map_cons, List.map_nil, ← List.append_assoc, numV_snoc, ← HR.out, Int.natCast_add]
              exact hown
            case measure => simp [intOf]; omega
          · have hiU : i = U.size := by omega
            subst hiU
            go_wp2
            go_roundw
            case rel =>
              refine ⟨k + 1, by omega, by go_num, ?_, hbx, hbv⟩
              have e1 : (ws.take (k + 1)).flatten.length = st + U.size := by
                rw [Tur.take_next HU.out, List.flatten_append, List.length_append, ← HST.out, HUL.out]
                simp
              have e2 : Tur.nxt (ws.take (k + 1)) 0 = N0 ++ (List.range U.size).map fun x => st + (x + 1) % U.size := by
                rw [Tur.take_next HU.out, Tur.nxt_snoc, ← HN0.out, ← HST.out, HUL.out, Nat.zero_add]
              rw [e1, e2]
              exact hro
            case measure => simp [intOf]; omega
      · have hkw : k = ws.length := by omega
        go_wp2
        go_ret
        refine ⟨_, ws, rfl, HG.out, HF.out, ?_, hbx⟩
        rw [hkw, List.take_length, HS.out] at hro
        exact owns_lower hro hb1.size
end Go.Proofs.YtkiindkoiomieaaGreatDoor
end

section
/-
  P4: strings.Builder's Write of bytes.
-/
namespace Go.Proofs.YtkiindkoiomieaaGreatDoor
open Go.RowKit Go.Lib

theorem fresh_one (w : World) : Lib.IsBuilder 83 5 w.heap.size w.heap.size (Lib.byteCells []) (w.alloc (.cells #[.pointer none, .slice none 0 0] 83)) := by
  left
  exact ⟨Nat.le_refl _, .slice none 0 0, heap_alloc_new _ _, World.ownsRow_nil _ _ _ _, by simp [Value.ownBlock]⟩

set_option maxHeartbeats 1000000 in
set_option maxRecDepth 100000 in
theorem writeAll_any (B b g cap : Nat) (l : List UInt8) (w : World) (h : Lib.IsBuilder 83 5 B b [] w) (hlen : l.length ≤ 500) (hBw : B ≤ w.heap.size) (hg : g < B) (hc : ∀ j u, (Lib.byteCells l)[j]? = some u → w.cell? ⟨g, j, none⟩ = some u) :
    Calls Tryz.prog 93 #[.pointer (some ⟨b, 0, none⟩), .slice (some ⟨g, 0, none⟩) l.length cap] w fun e w' => e = .returned (.tuple #[.int .i64 (l.length : Int), .nilIface]) ∧ Lib.IsBuilder 83 5 B b (Lib.byteCells l) w' ∧ Below B w w' := by
  obtain ⟨i0, hi, hz0, hz1, hz2⟩ := info_parts Tryz.info5
  have HC := hide hc
  clear hc
  go_enter Tryz.func93, Tryz.ntmps93
  go_wp2_with (go_at_call 98; refine (check_any B b [] _ h).mono ?_)
  rintro e w1 ⟨rfl, h1, hb1⟩
  obtain ⟨hB, v, hbk, hown, hne⟩ := h1
  have c1 : w1.cell? ⟨b, 1, none⟩ = some v := by rw [Lib.cell_of_heap hbk]; rfl
  have hs1 := hb1.size
  go_wp2_with (at_builtin; refine wpList_append_own _ rfl _ _ 81 rfl B 5 i0 (.int .u8 0) 1 1 Tryz.underlying81 hi hz0 hz1 hz2 rfl (by decide) _ _ _ rfl hown ⟨g, 0, none⟩ l.length cap (Lib.byteCells l) rfl ?q1 ?q2 ?q3 (by simp; unfold maxLen; omega) (by simp; omega) (by omega) ?_)
  case q1 => rw [Lib.byteCells_length, Nat.mul_one]
  case q2 =>
    intro j u hj
    rw [Addr.add_lit, Nat.zero_add]
    exact (hb1.cell (p := ⟨g, j, none⟩) hg).trans (HC.out j u hj)
  case q3 =>
    intro u hu
    simp only [Lib.byteCells, List.mem_map] at hu
    obtain ⟨x, _, rfl⟩ := hu
    rfl
  intro v' w2 hown' hgrow _
  have hlt : b < w1.heap.size := heap_lt0 hbk
  have hb2 : w2.heap[b]? = some (.cells #[.pointer (some ⟨b, 0, none⟩), v] 83 (0, 0)) := by
    rw [hgrow.block b hlt (fun e => hne e.symm)]
    exact hbk
  have d1 : w2.cell? ⟨b, 1, none⟩ = some v := by rw [Lib.cell_of_heap hb2]; rfl
  have f1 : w2.frozen? ⟨b, 1, none⟩ = false := Lib.frozen_of_heap hb2 1
  obtain ⟨a', cap', rfl⟩ := owns_slice hown'
  go_wp2
  go_ret2
  refine ⟨rfl, .inr ?_, ?_⟩
  · exact Lib.BuilderAt.put hB hb2 (bs' := Lib.byteCells l) (by simpa [Lib.byteCells_length] using hown') (by decide)
  · exact (hb1.grown hgrow (by omega) (fun k hk => (hown.lt k hk).1)).setCell (p := ⟨b, 1, none⟩) hB _
end Go.Proofs.YtkiindkoiomieaaGreatDoor
end

section
/-
  P4: the walk of turnedBack.
-/
namespace Go.Proofs.YtkiindkoiomieaaGreatDoor
open Go.RowKit Go.Lib

/-- Which rows are met. -/
def MetL (n : Nat) (O : List Nat) (ml : List Bool) : Prop := ml.length = n ∧ ∀ r, r < n → ml[r]? = some (decide (r ∈ O))
/-- What stands at the end of the text. -/
def TextL (n e : Nat) (W ty : List UInt8) : Prop := ty.length = n ∧ ty.drop e = W

theorem MetL.start (n : Nat) : MetL n [] (List.replicate n false) := ⟨by simp, fun r hr => by simp [hr]⟩
theorem MetL.next {n r : Nat} {O O' : List Nat} {ml : List Bool} (h : MetL n O ml) (hO : ∀ x, x ∈ O' ↔ x = r ∨ x ∈ O) : MetL n O' (ml.set r true) := by
  refine ⟨by rw [List.length_set]; exact h.1, fun x hx => ?_⟩
  rw [List.getElem?_set]
  by_cases e : r = x
  · subst e
    rw [if_pos rfl, if_pos (by rw [h.1]; exact hx)]
    have : r ∈ O' := (hO r).2 (.inl rfl)
    simp [this]
  · rw [if_neg e, h.2 x hx]
    have : x ∈ O' ↔ x ∈ O := by
      rw [hO]
      exact ⟨fun h => h.resolve_left (fun e' => e e'.symm), .inr⟩
    simp [this]
theorem TextL.start (n : Nat) : TextL n n [] (List.replicate n 0) := ⟨by simp, by simp⟩
theorem TextL.next {n e : Nat} {W ty : List UInt8} (h : TextL n (e + 1) W ty) (he : e < n) (c : UInt8) : TextL n e (c :: W) (ty.set e c) := by
  obtain ⟨h1, h2⟩ := h
  refine ⟨by rw [List.length_set]; exact h1, ?_⟩
  have hl : e < (ty.set e c).length := by rw [List.length_set, h1]; exact he
  rw [List.drop_eq_getElem_cons hl, List.drop_set_of_lt (by omega), h2, List.getElem_set_self]

theorem nums_cell {w : World} {g n : Nat} {p : Nat → Nat} (h : NumsAt w g ((List.range n).map p)) {r : Nat} (hr : r < n) : w.cell? ⟨g, r, none⟩ = some (.int .i64 (p r : Int)) :=
  cell_here h (cellsN_at (by simp [hr]))

set_option maxHeartbeats 2000000 in
set_option maxRecDepth 100000 in
theorem turnedBack_any (s : ByteArray) (w : World) (hs : s.size ≤ 500) :
    Calls Tryz.prog 58 #[.string s] w fun e w' => ∃ (b : List UInt8) (ws : List (List UInt8)), e = .returned (strV b) ∧ Duv.Good ws ∧ ws.flatten = b ∧ Tur.Turned ws s.data.toList ∧ Below w.heap.size w w' := by
  have hmy := make_bytes s.size hs
  have hmt := make_truths s.size hs
  have cR := rows_any s w hs
  obtain ⟨t, ht⟩ : ∃ t, t = s.data.toList := ⟨_, rfl⟩
  have hts : t.length = s.size := by rw [ht, ← Lib.size_eq]
  rw [← ht] at cR ⊢
  have CR := hide cR
  have HTT := hide ht
  have HTS := hide hts
  clear cR ht hts
  go_enter Tryz.func58, Tryz.ntmps58
  go_wp2_with (go_at_call 92; refine CR.out.mono ?_; rintro e w1 ⟨ga, p, rfl, hN, hga, hb1, hA⟩)
  have HN := hide hN
  have HA := hide hA
  have hga1 := heap_lt0 hN
  clear hN hA CR
  go_wp2
  clear hmy hmt
  go_loopw [6, 22] (fun ev kv wr => ∃ (f e : Nat) (cs : List (Nat × Nat)) (ml : List Bool) (ty : List UInt8), f ≤ s.size ∧ kv = .int .i64 f ∧ ev = .int .i64 e ∧ Hid (e + (Tur.allRows p cs).length = s.size) ∧ Hid (wr.heap[w1.heap.size]? = some (.cells (cellsY ty) 5 (0, 0))) ∧ Hid (wr.heap[w1.heap.size + 1]? = some (.cells (cellsT ml) 4 (0, 0))) ∧ Hid (Tur.Met t p cs f) ∧ Hid (MetL s.size (Tur.allRows p cs) ml) ∧ Hid (TextL s.size e (cs.map (Tur.word t p)).flatten ty) ∧ Below w.heap.size w wr ∧ Below w1.heap.size w1 wr) (fun _ kv _ => s.size - (intOf kv).toNat)
  case atStart =>
    refine ⟨0, s.size, [], _, _, by omega, rfl, rfl, hide rfl, ?_, ?_, hide (Tur.Met.start _ _), hide (MetL.start _), hide (TextL.start _), (hb1.alloc hb1.size _).alloc (by have := hb1.size; simp; omega) _, ((Below.refl _ _).alloc (Nat.le_refl _) _).alloc (by simp) _⟩
    · apply hide
      rw [Lib.alloc_old _ _ _ (by simp)]
      exact heap_alloc_new _ _
    · apply hide
      have := heap_alloc_new (w1.alloc (.cells (cellsY (List.replicate s.size 0)) 5)) (.cells (cellsT (List.replicate s.size false)) 4)
      simpa using this
  case round =>
    obtain ⟨f, e, cs, ml, ty, hf, rfl, rfl, HE, HY, HT, HM, HML, HTX, hbx, hbv⟩ := hrel
    by_cases hlt : f < s.size
    · have hft : f < t.length := by rw [HTS.out]; exact hlt
      have HS0 := hide (Tur.Steps.start HM.out hft)
      go_wp2
      go_loopw [6, 8] (fun ev rv wr => ∃ (j e : Nat) (ml : List Bool) (ty : List UInt8), ev = .int .i64 e ∧ rv = .int .i64 (Tur.it p j f : Nat) ∧ Hid (e + (j + (Tur.allRows p cs).length) = s.size) ∧ e ≤ s.size ∧ Hid (wr.heap[w1.heap.size]? = some (.cells (cellsY ty) 5 (0, 0))) ∧ Hid (wr.heap[w1.heap.size + 1]? = some (.cells (cellsT ml) 4 (0, 0))) ∧ Hid (Tur.Steps t p cs f j) ∧ Hid (MetL s.size (Tur.rows p (f, j) ++ Tur.allRows p cs) ml) ∧ Hid (TextL s.size e (Tur.word t p (f, j) ++ (cs.map (Tur.word t p)).flatten) ty) ∧ Below w.heap.size w wr ∧ Below w1.heap.size w1 wr) (fun ev _ _ => (intOf ev).toNat)
      case atStart => exact ⟨0, e, ml, ty, rfl, rfl, hide (by have := HE.out; omega), by have := HE.out; omega, HY, HT, HS0, HML, HTX, hbx, hbv⟩
      case round =>
        clear hbx hbv HY HT HML HTX HE HS0
        obtain ⟨j, e, ml, ty, rfl, rfl, HE, hes, HY, HT, HS, HML, HTX, hbx, hbv⟩ := hrel
        have hrn : Tur.it p j f < s.size := by rw [← HTS.out]; exact HA.out.it_lt hft j
        obtain ⟨r, hr⟩ : ∃ r, r = Tur.it p j f := ⟨_, rfl⟩
        rw [← hr] at hrn ⊢
        have hmr := HML.out.2 r hrn
        have cm := cell_here HT.out (cellsT_at hmr)
        have fm := frozen_of_row _ (w1.heap.size + 1) r _ _ HT.out
        have cp := (hbv.cell (p := ⟨ga, r, none⟩) hga1).trans (nums_cell HN.out hrn)
        by_cases hin : r ∈ Tur.rows p (f, j) ++ Tur.allRows p cs
        · rw [decide_eq_true hin] at cm
          have HR := hide hr
          clear hr hmr
          go_wp2
          go_roundw
          case rel =>
            by_cases hj : j = 0
            · subst hj
              have hfO : f ∈ Tur.allRows p cs := by
                have := hin
                rw [HR.out] at this
                simpa [Tur.rows, Tur.it] using this
              exact ⟨f + 1, e, cs, ml, ty, by omega, by go_num, rfl, hide (by have := HE.out; omega), HY, HT, hide (HM.out.again hfO), HML, HTX, hbx, hbv⟩
            · have hcl := HS.out.close HA.out HM.out (by omega) (by rw [← HR.out]; exact hin)
              refine ⟨f + 1, e, (f, j) :: cs, ml, ty, by omega, by go_num, rfl, ?_, HY, HT, hide (HM.out.more HS.out (by omega) hcl), ?_, ?_, hbx, hbv⟩
              · apply hide
                rw [Tur.allRows_cons, List.length_append, Tur.rows_length]
                exact HE.out
              · rw [Tur.allRows_cons]
                exact HML
              · rw [List.map_cons, List.flatten_cons]
                exact HTX
          case measure => simp [intOf]; omega
        · rw [decide_eq_false hin] at cm
          have hst := HS.out.next (by rw [← hr]; exact hin)
          have hfw := hst.few HA.out HM.out
          rw [HTS.out] at hfw
          have hE := HE.out
          obtain ⟨e', rfl⟩ : ∃ e', e = e' + 1 := ⟨e - 1, by omega⟩
          have HST := hide hst
          have hyl : e' < ty.length := by rw [HTX.out.1]; omega
          obtain ⟨y0, hy0⟩ : ∃ y0, ty[e']? = some y0 := ⟨_, List.getElem?_eq_getElem hyl⟩
          have cy := cell_here HY.out (cellsY_at hy0)
          have fy := frozen_of_row _ w1.heap.size e' _ _ HY.out
          have HR := hide hr
          have HIN := hide hin
          have n1 : ga ≠ w1.heap.size := by omega
          have n2 : ga ≠ w1.heap.size + 1 := by omega
          clear hst hfw hE hr hin hmr hy0 hyl
          go_wp2
          go_roundw
          case rel =>
            refine ⟨j + 1, e', ml.set r true, ty.set e' s[r], rfl, ?_, ?_, by omega, ?_, ?_, HST, ?_, ?_, ?_, ?_⟩
            · rw [HR.out]
              rfl
            · exact hide (by have := HE.out; omega)
            · apply hide
              have h1 : (wr.setCell ⟨w1.heap.size + 1, r, none⟩ (.bool true)).heap[w1.heap.size]? = some (.cells (cellsY ty) 5 (0, 0)) := by
                rw [heap_setCell_other _ _ _ _ (by simp)]
                exact HY.out
              rw [heap_setCell_same _ _ _ _ _ _ h1, cellsY_set]
            · apply hide
              rw [heap_setCell_other _ _ _ _ (by simp), heap_setCell_same _ _ _ _ _ _ HT.out, cellsT_set]
            · refine hide (HML.out.next fun x => ?_)
              rw [Tur.rows_next, ← HR.out]
              simp only [List.mem_append, List.mem_singleton, List.append_assoc]
              exact ⟨fun h => by rcases h with h | h | h; exact .inr (.inl h); exact .inl h; exact .inr (.inr h), fun h => by rcases h with h | h | h; exact .inr (.inl h); exact .inl h; exact .inr (.inr h)⟩
            · apply hide
              rw [Tur.word_next, List.cons_append, ← HR.out]
              have e1 : t[r]?.getD 0 = s[r] := by rw [HTT.out, byte_at s r hrn]
              rw [e1]
              exact HTX.out.next (by omega) s[r]
            · exact (hbx.setCell (p := ⟨w1.heap.size + 1, r, none⟩) (Nat.le_succ_of_le hb1.size) _).setCell (p := ⟨w1.heap.size, e', none⟩) hb1.size _
            · exact (hbv.setCell (p := ⟨w1.heap.size + 1, r, none⟩) (Nat.le_succ _) _).setCell (p := ⟨w1.heap.size, e', none⟩) (Nat.le_refl _) _
          case measure => simp [intOf]
    · have hfn : f = s.size := by omega
      have hMd := HM.out
      rw [hfn, ← HTS.out] at hMd
      have hAll := hMd.done HA.out
      have hwl := Tur.words_length t p cs
      have hpl := hAll.perm.length_eq
      have hE := HE.out
      have e0 : e = 0 := by
        rw [List.length_range, HTS.out] at hpl
        have : (Tur.allRows p cs).length = s.size := hpl
        omega
      have htx := HTX.out
      rw [e0] at htx
      obtain ⟨tl, td⟩ := htx
      rw [List.drop_zero] at td
      have HAll := hide hAll
      have HTD := hide td
      have hlt1 := heap_lt0 HY.out
      have hfz : wr.heap.size ≤ (wr.alloc (.cells #[.pointer none, .slice none 0 0] 83)).heap.size := (World.grownBy_alloc _ _ none).size
      have cW := writeAll_any wr.heap.size wr.heap.size w1.heap.size s.size ty (wr.alloc (.cells #[.pointer none, .slice none 0 0] 83)) (fresh_one wr) (by omega) hfz hlt1 (fun k v hv => by
        refine Lib.cell?_alloc_some _ (cell_here HY.out ?_)
        simpa [cellsY, Lib.byteCells] using hv)
      rw [tl] at cW
      have CW := hide cW
      clear hMd hAll hwl hpl hE td cW
      go_wp2_with (first
        | (go_at_call 93; refine CW.out.mono ?_; rintro e w2 ⟨rfl, hB2, hb2⟩)
        | (go_at_call 64; refine (Tryz.Builder_String_any _ _ _ _ hB2 (Nat.le_trans hfz hb2.size)).mono ?_; rintro e w3 ⟨rfl, hb3⟩))
      go_ret
      have hsz2 : w.heap.size ≤ wr.heap.size := hbx.size
      refine ⟨ty, cs.map (Tur.word t p), rfl, HAll.out.good HA.out, HTD.out.symm, HAll.out.turned HA.out, ?_⟩
      exact ((hbx.alloc hbx.size _).trans (hb2.mono hsz2)).trans (hb3.mono hsz2)
end Go.Proofs.YtkiindkoiomieaaGreatDoor
end

section
/-
  P4: the walk of readingRanks.
-/
namespace Go.Proofs.YtkiindkoiomieaaGreatDoor
open Go.RowKit Go.Lib

set_option maxHeartbeats 2000000 in
set_option maxRecDepth 100000 in
theorem ranking_any (s : ByteArray) (ws : List (List UInt8)) (gn cn : Nat) (w : World) (hs : s.size ≤ 300) (hf : ws.flatten = s.data.toList) (hgn : gn < w.heap.size) (hc : ∀ x, x < s.size → w.cell? ⟨gn, x, none⟩ = some (.int .i64 (Tur.nx ws x : Int))) :
    Calls Tryz.prog 60 #[.string s, .slice (some ⟨gn, 0, none⟩) s.size cn] w fun e w' => ∃ g N rk, e = .returned (.slice (some ⟨g, 0, none⟩) s.size s.size) ∧ NumsAt w' g ((List.range s.size).map rk) ∧ s.size ≤ N ∧ Tur.RankN ws N rk ∧ (∀ x, x < s.size → rk x ≤ 300) ∧ Below w.heap.size w w' := by
  have hsum : ws.flatten.length = s.size := by rw [hf, ← Lib.size_eq]
  have hmi := make_ints s.size (by omega)
  have HS := hide hsum
  have HF := hide hf
  have HC := hide hc
  clear hsum hf hc
  go_enter Tryz.func60, Tryz.ntmps60
  go_wp2
  clear hmi
  go_loopw [13] (fun kv wr => ∃ k : Nat, k ≤ s.size ∧ kv = .int .i64 k ∧ Hid (NumsAt wr w.heap.size (fill (Duv.bt ws.flatten) s.size k)) ∧ Below w.heap.size w wr) (fun kv _ => s.size - (intOf kv).toNat)
  case atStart => exact ⟨0, by omega, rfl, by rw [fill_zero]; exact hide (heap_alloc_new _ _), (Below.refl _ _).alloc (Nat.le_refl _) _⟩
  case round =>
    obtain ⟨k, hk, rfl, HN, hbx⟩ := hrel
    by_cases hlt : k < s.size
    · have c1 := cell_here HN.out (cellsN_at (fill_at (Duv.bt ws.flatten) (k := k) hlt))
      rw [if_neg (Nat.lt_irrefl k)] at c1
      have f1 := frozen_of_row _ w.heap.size k _ _ HN.out
      go_wp2
      go_roundw
      case rel =>
        refine ⟨k + 1, by omega, by go_num, ?_, hbx.setCell (p := ⟨w.heap.size, k, none⟩) (Nat.le_refl _) _⟩
        apply hide
        unfold NumsAt
        rw [wrap64_byte, heap_setCell_same _ _ _ _ _ _ HN.out, cellsN_set, byte_bt s k hlt, ← HF.out, fill_set]
      case measure => simp [intOf]; omega
    · have hkd : k = s.size := by omega
      have hN := HN.out
      have e : fill (Duv.bt ws.flatten) s.size s.size = (List.range s.size).map (Duv.bt ws.flatten) := by
        unfold fill
        exact List.map_congr_left fun j hj => by rw [if_pos (List.mem_range.1 hj)]
      rw [hkd, e] at hN
      have HN2 := hide hN
      have hg0 := heap_lt0 hN
      clear hkd e hN HN
      go_wp2
      go_loopw [1, 5, 7] (fun ov rv nv wr => ∃ (N go co gr : Nat) (rk : Nat → Nat), ov = .slice (some ⟨go, 0, none⟩) s.size co ∧ rv = .slice (some ⟨gr, 0, none⟩) s.size s.size ∧ nv = .int .i64 N ∧ 1 ≤ N ∧ N ≤ 600 ∧ go < wr.heap.size ∧ gr < wr.heap.size ∧ Hid (NumsAt wr gr ((List.range s.size).map rk)) ∧ Hid (∀ x, x < s.size → wr.cell? ⟨go, x, none⟩ = some (.int .i64 (Tur.it (Tur.nx ws) N x : Nat))) ∧ Hid (Tur.RankN ws N rk) ∧ Hid (∀ x, x < s.size → rk x ≤ 300) ∧ Below w.heap.size w wr) (fun _ _ nv _ => s.size - (intOf nv).toNat)
      case atStart =>
        refine ⟨1, gn, cn, w.heap.size, Duv.bt ws.flatten, rfl, rfl, rfl, by omega, by omega, Nat.lt_of_lt_of_le hgn hbx.size, hg0, HN2, ?_, hide (Tur.RankN.start ws), ?_, hbx⟩
        · exact hide fun x hx => (hbx.cell (p := ⟨gn, x, none⟩) hgn).trans (HC.out x hx)
        · exact hide fun x _ => by have := bt_lt ws.flatten x; omega
      case round =>
        clear hbx HN2 hg0
        obtain ⟨N, go, co, gr, rk, rfl, rfl, rfl, hN1, hN2, hgo, hgr, HN, HO, HR, HB, hbx⟩ := hrel
        by_cases hlt2 : N < s.size
        · have cT := twice_any gr s.size go co s.size rk (fun x => Tur.it (Tur.nx ws) N x) wr hs hgr hgo (fun x hx => nums_cell HN.out hx) HO.out HB.out (fun x hx => by
            have := Tur.it_lt (ws := ws) (x := x) (by rw [HS.out]; exact hx) N
            rwa [HS.out] at this)
          have CT := hide cT
          clear cT
          go_wp2_with (go_at_call 94; refine CT.out.mono ?_; rintro e w1 ⟨g1, g2, rk', rfl, hN1', hN2', hb1, hl1, ho1⟩)
          go_roundw
          case rel =>
            refine ⟨N * 2, g2, s.size, g1, rk', rfl, rfl, by go_num, by omega, by omega, heap_lt0 hN2', heap_lt0 hN1', hide hN1', ?_, ?_, ?_, hbx.trans (hb1.mono hbx.size)⟩
            · refine hide fun x hx => ?_
              have := nums_cell hN2' hx
              rw [Tur.it_add, ← Nat.mul_two] at this
              exact this
            · refine hide (HR.out.twice fun x y hx hy => ?_)
              rw [HS.out] at hx hy
              exact ho1 x y hx hy
            · exact hide fun x hx => by have := hl1 x hx; omega
          case measure => simp [intOf]; omega
        · go_wp2
          go_ret
          exact ⟨gr, N, rk, rfl, HN.out, by omega, HR.out, HB.out, hbx⟩
end Go.Proofs.YtkiindkoiomieaaGreatDoor
end

