/-
  P4: the walk of ranksOf.
-/
import Derived.Test.YtkiindkoiomieaaRanksOf
namespace Go.Proofs.Ytkiindkoiomieaa
open Go.RowKit Go.Lib Go.Sort Go.Maps

/-- A row of numbers lies in a block. -/
def NumsAt (w : World) (g : Nat) (l : List Nat) : Prop := w.heap[g]? = some (.cells (cellsN l) 3 (0, 0))

theorem tell_eq {D : DataW Unit} {l : Lit} {a b : Int} (h1 : D.atKey l (.lit (.int .i64 0)) = .lit (.int .i64 a)) (h2 : D.atKey l (.lit (.int .i64 0)) = .lit (.int .i64 b)) : a = b := by
  rw [h1] at h2
  simpa using h2

set_option maxHeartbeats 2000000 in
set_option maxRecDepth 100000 in
theorem ranks_any (g cap : Nat) (d : Array (Int × Int)) (w : World) (hsz : d.size ≤ 500) (hL : Lies w g d) (hw : Wf d.toList) :
    Calls Try.prog 67 #[.slice (some ⟨g, 0, none⟩) d.size cap] w fun e w' => ∃ g' f, e = .returned (.slice (some ⟨g', 0, none⟩) d.size d.size) ∧ NumsAt w' g' ((List.range d.size).map f) ∧ w.heap.size ≤ g' ∧ Below w.heap.size w w' ∧ Ranks d f := by
  have hg0 := hL.lt
  have HL := hide hL
  have HW := hide hw
  clear hL hw
  have hmm := make_map
  have hmi := make_ints d.size (by omega)
  go_enter Try.func67, Try.ntmps67
  go_wp2_with (go_at_call 79; refine (clonePairs_any g cap d _ hsz HL.out).mono ?_; rintro e w1 ⟨gs, caps, rfl, hc1, hc2, hgs, hL1, hb1⟩)
  have HL1 := hide hL1
  clear hL1
  go_wp2_with fail
  go_at_call 51
  refine (sort_any gs caps d w1 (by omega) HL1.out).mono ?_
  rintro e w2 ⟨rfl, d', hds, hp, hs, hL2, hg2⟩
  have hgs1 := HL1.out.lt
  have hgs2 := hL2.lt
  have hsd : SrtP d' := fun i j hij hj => hs i j hij (by omega)
  have hcon := ranks_of hds hp hsd
  have hstr := compact_strict hsd
  have hcl := compact_length d'
  have hwc : Wf (compactUpTo d' d'.size) := fun x hx => by
    have : x ∈ d'.toList := by
      unfold compactUpTo at hx
      obtain ⟨i, hi, rfl⟩ := List.mem_map.1 hx
      have hi' : i < d'.size := List.mem_range.1 (List.mem_filter.1 hi).1
      rw [getElem!_pos d' i hi']
      simp
    exact HW.out x (hp.mem_iff.1 this)
  have hmem : ∀ i, i < d.size → d[i]! ∈ compactUpTo d' d'.size := fun i hi => by
    obtain ⟨j, hj, e⟩ := mem_get hp hi
    rw [← e]
    exact compact_mem d' j hj
  have cC := fun W h => compact_any gs caps d' W (by omega) (by omega) hc2 h
  rw [hds] at cC hcon hstr hcl hwc hmem
  have cC' : ∀ W, Lies W gs d' → Calls Try.prog 80 #[.slice (some ⟨gs, 0, none⟩) d.size caps] W fun e w' => e = .returned (.slice (some ⟨gs, 0, none⟩) (compactUpTo d' d.size).length caps) ∧ Lies w' gs (compactUpTo d' d.size).toArray ∧ W.grownBy w' (some gs) := cC
  generalize compactUpTo d' d.size = c at cC' hcon hstr hcl hwc hmem
  have hb2 : Below w.heap.size w w2 := hb1.grown hg2 hb1.size (fun j hj => by cases hj; exact hgs)
  have HL2 := hide hL2
  have HR := hide hcon
  have HST := hide hstr
  have HWC := hide hwc
  have HM := hide hmem
  have HC := hide cC'
  clear hp hs hsd hL2 hcon hstr hwc hmem cC cC' hg2 HL1
  have hLa : Lies (w2.alloc (.map #[] 0)) gs d' := HL2.out.kept (Lib.alloc_old _ _ _ hgs2)
  go_wp2_with fail
  go_at_call 80
  refine (HC.out _ hLa).mono ?_
  rintro e w3 ⟨rfl, hL3, hg3⟩
  have hgm : some w2.heap.size ≠ some gs := fun e => by cases e; omega
  have hm3 : w3.ownsMap Try.prog 78 (plainElem (H := Unit) Try.prog 3) w2.heap.size 0 (.map []) := (World.ownsMap_made w2 Try.prog 78 _).kept hg3 hgm
  have hb3 : Below w.heap.size w w3 := (hb2.alloc hb2.size _).grown hg3 (Nat.le_trans hb2.size (World.grownBy_alloc _ _ none).size) (fun j hj => by cases hj; exact hgs)
  have HL3 := hide hL3
  clear hLa hL3 HC
  have hgs3 := HL3.out.lt
  go_wp2
  go_loopw [20] (fun kv wr => ∃ (k : Nat) (D : DataW Unit), k ≤ c.length ∧ kv = .int .i64 k ∧ wr.ownsMap Try.prog 78 (plainElem (H := Unit) Try.prog 3) w2.heap.size k D ∧ Hid (Tells c k D) ∧ Hid (Lies wr gs c.toArray) ∧ Below w.heap.size w wr) (fun kv _ => c.length - (intOf kv).toNat)
  case atStart => exact ⟨0, .map [], by omega, rfl, hm3, hide (fun j x hj => by omega), HL3, hb3⟩
  case round =>
    obtain ⟨k, D, hk, rfl, hown, HT, HLk, hbx⟩ := hrel
    by_cases hlt : k < c.length
    · obtain ⟨x, hx⟩ : ∃ x, c[k]? = some x := ⟨_, List.getElem?_eq_getElem hlt⟩
      have hcx := HLk.out.cell (j := k) (by simpa using hlt)
      have hxe : c.toArray[k]! = x := by
        rw [getElem!_pos _ k (by simpa using hlt)]
        obtain ⟨h1, h2⟩ := List.getElem?_eq_some_iff.1 hx
        simpa using h2
      rw [hxe] at hcx
      obtain ⟨c1, c2⟩ := hcx
      have hxm := List.mem_of_getElem? hx
      have hkey := key_mk x (HWC.out x hxm).1 (HWC.out x hxm).2
      have hnext := hide (HT.out.next hown.isMap HST.out HWC.out hx)
      have HX := hide hx
      have gsk := HLk.out.lt
      obtain ⟨x1, x2⟩ := x
      simp only at c1 c2 hkey
      have HK := hide hkey
      clear hxe hxm hx hkey
      go_wp2_with (first
        | (at_mapUpdate; refine wpList_mapUpdate_own _ rfl _ _ _ 112 rfl 78 3 law Try.underlying112 _ w2.heap.size k D rfl (hown.alloc _) (by unfold maxLen; omega) _ _ (kp (x1, x2)) rfl rfl HK.out _ [] (plainElem_int Try.underlying3 (WalkArith.wf_i64 (by omega))) ?_; intro w4 hown4 hgrow4))
      go_roundw
      case rel =>
        refine ⟨k + 1, _, by omega, by go_num, hown4, hnext, ?_, (hbx.alloc hbx.size _).grown hgrow4 (Nat.le_trans hbx.size (World.grownBy_alloc _ _ none).size) (fun j hj => by cases hj; exact hb2.size)⟩
        exact hide (HLk.out.kept (by rw [hgrow4.block gs (Nat.lt_of_lt_of_le gsk (World.grownBy_alloc _ _ none).size) (fun e => hgm e.symm), Lib.alloc_old _ _ _ gsk]))
      case measure => simp [intOf]; omega
    · have hkc : k = c.length := by omega
      subst hkc
      obtain ⟨f, hf⟩ : ∃ f : Nat → Nat, f = fun i => c.idxOf d[i]! := ⟨_, rfl⟩
      have hR := HR.out
      rw [← hf] at hR
      have HR2 := hide hR
      have hfe : ∀ i, f i = c.idxOf d[i]! := fun i => by rw [hf]
      have HFE := hide hfe
      have hgms := hown.lt
      have hwm := hbx.size
      clear hR hf hfe HLk HR hm3 hb3
      rename World => wm
      go_wp2
      go_loopw [34] (fun kv wr => ∃ k : Nat, k ≤ d.size ∧ kv = .int .i64 k ∧ wr.ownsMap Try.prog 78 (plainElem (H := Unit) Try.prog 3) w2.heap.size c.length D ∧ Hid (NumsAt wr wm.heap.size (fill f d.size k)) ∧ Below w.heap.size w wr) (fun kv _ => d.size - (intOf kv).toNat)
      case atStart => exact ⟨0, by omega, rfl, hown.alloc _, by rw [fill_zero]; exact hide (heap_alloc_new _ _), hbx.alloc hbx.size _⟩
      case round =>
        clear hown hbx
        obtain ⟨k, hk, rfl, hown, HN, hbx⟩ := hrel
        by_cases hlt : k < d.size
        · have hcx := HL.out.cell (j := k) hlt
          have hm := HM.out k hlt
          have hfk := HFE.out k
          generalize hxe : d[k]! = x at hcx hm hfk
          obtain ⟨c1, c2⟩ := hcx
          have hkey := key_mk x (HWC.out x hm).1 (HWC.out x hm).2
          have hil := List.idxOf_lt_length_of_mem hm
          have htell := HT.out (c.idxOf x) x hil (by rw [List.getElem?_eq_getElem hil, List.getElem_idxOf hil])
          rw [← hfk] at htell hil
          obtain ⟨v, hv⟩ : ∃ v, v = f k := ⟨_, rfl⟩
          rw [← hv] at htell hil
          have hgr := heap_lt0 HN.out
          have hcell := cell_here HN.out (cellsN_at (fill_at f (k := k) hlt))
          rw [if_neg (Nat.lt_irrefl k)] at hcell
          have hfr := frozen_of_row _ wm.heap.size k _ _ HN.out
          obtain ⟨x1, x2⟩ := x
          have d1 := (hbx.cell (p := ⟨g, k * 2, none⟩) hg0).trans c1
          have d2 := (hbx.cell (p := ⟨g, k * 2 + 1, none⟩) hg0).trans c2
          simp only at d1 d2 hkey
          have HK := hide hkey
          have HTE := hide htell
          have HV := hide hv
          clear hxe hm hfk hkey htell hv c1 c2
          go_wp2_with (first
            | (at_lookup; refine wpList_lookup_own_int _ rfl _ _ 112 rfl 78 3 .i64 law Try.underlying112 Try.underlying3 (Try.zeroValue3 _) w2.heap.size c.length D rfl (hown.alloc _) _ (kp (x1, x2)) rfl HK.out ?_; intro cv hat hwc; have hcv : cv = (v : Int) := tell_eq hat HTE.out; subst hcv))
          go_roundw
          case rel =>
            refine ⟨k + 1, by omega, by go_num, (hown.kept (grown_setCell wr wm.heap.size k _) (fun e => by simp only [Option.some.injEq] at e; omega)).alloc _, ?_, (hbx.setCell (p := ⟨wm.heap.size, k, none⟩) hwm _).alloc (by have := hbx.size; simpa using this) _⟩
            apply hide
            unfold NumsAt
            rw [Lib.alloc_old _ _ _ (by simpa using hgr), heap_setCell_same _ _ _ _ _ _ HN.out, cellsN_set, HV.out, fill_set]
          case measure => simp [intOf]; omega
        · have hkd : k = d.size := by omega
          subst hkd
          go_wp2
          go_ret
          refine ⟨wm.heap.size, f, rfl, ?_, hwm, hbx, HR2.out⟩
          have := HN.out
          have e : fill f d.size d.size = (List.range d.size).map f := by
            unfold fill
            exact List.map_congr_left fun j hj => by rw [if_pos (List.mem_range.1 hj)]
          rwa [e] at this
end Go.Proofs.Ytkiindkoiomieaa
