import Derived.Test.YtkiindkoiomieaaGreatDoorJ07
import Derived.Test.YtkiindkoiomieaaGreatDoorJ02
import Derived.Test.YtkiindkoiomieaaGreatDoorJ06
import Derived.Test.YtkiindkoiomieaaGreatDoorJ05
section
/-
  P4: the walk of turned.
-/
namespace Go.Proofs.YtkiindkoiomieaaGreatDoor
open Go.RowKit Go.Lib Go.Sort

/-- The byte of a row. -/
def by2 (x : Int × Int) : UInt8 := UInt8.ofNat x.2.toNat

theorem by2_mk (a : Int) (t : List UInt8) (x : Nat) : by2 (a, (Duv.bt t x : Int)) = t[x]?.getD 0 := by
  unfold by2 Duv.bt
  simp

/-- Sorted rows tell the text, turned. -/
theorem turned_of_rows {ws : List (List UInt8)} {N n : Nat} {rk : Nat → Nat} (hn : ws.flatten.length = n) (hN : n ≤ N) (hr : Tur.RankN ws N rk) {f : Nat → Int × Int} (hf : f = fun j => (((rk (Tur.nx ws j) : Nat) : Int), ((Duv.bt ws.flatten j : Nat) : Int))) {d' : Array (Int × Int)}
    (hp : d'.toList.Perm (fillP f n n).toList) (hs : ∀ i j, i < j → j < n → ltP d'[j]! d'[i]! = false) : Tur.Turned ws (d'.toList.map by2) := by
  have e1 : (fillP f n n).toList = (List.range n).map f := by
    simp only [fillP]
    exact List.map_congr_left fun j hj => by rw [if_pos (List.mem_range.1 hj)]
  rw [e1] at hp
  obtain ⟨P, h1, h2⟩ := Tur.perm_lift f hp (List.range n) rfl
  have hlen : d'.size = n := by
    have := hp.length_eq
    simpa using this
  rw [h2, List.map_map]
  have e2 : P.map (by2 ∘ f) = P.map fun x => ws.flatten[x]?.getD 0 := by
    apply List.map_congr_left
    intro x _
    simp only [Function.comp_apply, hf]
    exact by2_mk _ _ _
  rw [e2]
  rw [← hn] at h1
  refine Tur.turned_rows (by rw [hn]; exact hN) hr h1 ?_
  have hpw : d'.toList.Pairwise fun a b => ltP b a = false := by
    rw [List.pairwise_iff_getElem]
    intro i j hi hj hij
    have hj' : j < d'.size := by simpa using hj
    have hi' : i < d'.size := by omega
    have := hs i j hij (by omega)
    rw [getElem!_pos d' j hj', getElem!_pos d' i hi'] at this
    simpa using this
  rw [h2, List.pairwise_map] at hpw
  refine hpw.imp fun {x y} h => ?_
  rw [hf, ltP_false] at h
  simp only at h
  omega

set_option maxHeartbeats 2000000 in
set_option maxRecDepth 100000 in
theorem turned_any (s : ByteArray) (w : World) (hs : s.size ≤ 300) (h0 : 0 < s.size) :
    Calls Tryz.prog 34 #[.string s] w fun e w' => ∃ (t : List UInt8) (ws : List (List UInt8)), e = .returned (strV t) ∧ Duv.Good ws ∧ ws.flatten = s.data.toList ∧ Tur.Turned ws t ∧ Below w.heap.size w w' := by
  obtain ⟨cs, hmk, hsize, hlie⟩ := make_pairs s.size (by omega)
  have HLI := hide hlie
  clear hlie hsize
  go_enter Tryz.func34, Tryz.ntmps34
  go_wp2_with fail
  go_at_call 59
  refine (next_places s w hs).mono ?_
  rintro e w1 ⟨v, ws, rfl, hg, hf, hown, hb1⟩
  obtain ⟨gn, cn, rfl, hgn, hcn⟩ : ∃ gn cn, v = .slice (some ⟨gn, 0, none⟩) s.size cn ∧ gn < w1.heap.size ∧ ∀ x, x < s.size → w1.cell? ⟨gn, x, none⟩ = some (.int .i64 (Tur.nx ws x : Int)) := by
    rcases hown.2 with ⟨_, h2⟩ | ⟨g, cap, cur, rfl, h3, h4, _⟩
    · omega
    · refine ⟨g, cap, rfl, heap_lt0 h4, fun x hx => ?_⟩
      rw [hown.cellAt x (by omega)]
      have hl : x < (Tur.nxt ws 0).length := by rw [Tur.nxt_length, hf, ← Lib.size_eq]; exact hx
      simp [numV, Tur.nx, hl]
  have hsum : ws.flatten.length = s.size := by rw [hf, ← Lib.size_eq]
  have cK := ranking_any s ws gn cn w1 hs hf hgn hcn
  have CK := hide cK
  have HG := hide hg
  have HF := hide hf
  have HS := hide hsum
  have HCN := hide hcn
  clear cK hg hf hsum hcn hown
  go_wp2_with fail
  go_at_call 60
  refine CK.out.mono ?_
  rintro e w2 ⟨gk, N, rk, rfl, hNK, hN, hR, hB, hb2⟩
  obtain ⟨f, hf⟩ : ∃ f : Nat → Int × Int, f = fun j => (((rk (Tur.nx ws j) : Nat) : Int), ((Duv.bt ws.flatten j : Nat) : Int)) := ⟨_, rfl⟩
  have HFF := hide hf
  have HNK := hide hNK
  have HR := hide hR
  have HBB := hide hB
  have hgk := heap_lt0 hNK
  have hgn2 : gn < w2.heap.size := Nat.lt_of_lt_of_le hgn hb2.size
  have hb12 := hb1.trans (hb2.mono hb1.size)
  have hcn2 : Hid (∀ x, x < s.size → w2.cell? ⟨gn, x, none⟩ = some (.int .i64 (Tur.nx ws x : Int))) := fun x hx => (hb2.cell (p := ⟨gn, x, none⟩) hgn).trans (HCN.out x hx)
  clear hf hNK hR hB CK HCN
  go_wp2
  clear hmk
  go_loopw [20] (fun kv wr => ∃ k : Nat, k ≤ s.size ∧ kv = .int .i64 k ∧ Hid (Lies wr w2.heap.size (fillP f s.size k)) ∧ Below w.heap.size w wr ∧ Below w2.heap.size w2 wr) (fun kv _ => s.size - (intOf kv).toNat)
  case atStart => exact ⟨0, by omega, rfl, by rw [← fillP_zero]; exact hide (HLI.out _ _ (heap_alloc_new _ _)), hb12.alloc hb12.size _, (Below.refl _ _).alloc (Nat.le_refl _) _⟩
  case round =>
    obtain ⟨k, hk, rfl, HL, hbx, hbv⟩ := hrel
    by_cases hlt : k < s.size
    · obtain ⟨c1, c2⟩ := HL.out.cell (j := k) (by rw [fillP_size]; exact hlt)
      generalize (fillP f s.size k)[k]! = old at c1 c2
      have f1 := HL.out.frozen (k * 2)
      have f2 := HL.out.frozen (k * 2 + 1)
      have hm0 : Tur.nx ws k < s.size := by
        have := Tur.nx_lt (ws := ws) (x := k) (by rw [HS.out]; exact hlt)
        rwa [HS.out] at this
      have d1 := (hbv.cell (p := ⟨gn, k, none⟩) hgn2).trans (hcn2.out k hlt)
      have d2 := (hbv.cell (p := ⟨gk, Tur.nx ws k, none⟩) hgk).trans (nums_cell HNK.out hm0)
      obtain ⟨m, hm⟩ : ∃ m, m = Tur.nx ws k := ⟨_, rfl⟩
      obtain ⟨a, ha⟩ : ∃ a, a = rk (Tur.nx ws k) := ⟨_, rfl⟩
      rw [← ha, ← hm] at d2
      rw [← hm] at d1 hm0
      have HA := hide ha
      have i1 : (0 : Int) ≤ (k : Int) := by omega
      have i2 : (k : Int) < (s.size : Int) := by omega
      have i3 : (0 : Int) ≤ (m : Int) := by omega
      have i4 : (m : Int) < (s.size : Int) := by omega
      have n1 : gn ≠ w2.heap.size := by omega
      have n2 : gk ≠ w2.heap.size := by omega
      clear hm ha
      go_wp2_with fail
      go_region
      go_wp2
      go_roundw
      case rel =>
        have hL2 := HL.out.set (i := k) (by rw [fillP_size]; exact hlt) (a : Int) (s[k].toNat : Int)
        have e : ((a : Int), (s[k].toNat : Int)) = f k := by rw [HFF.out, HA.out, byte_bt s k hlt, HF.out]
        rw [e, fillP_set] at hL2
        refine ⟨k + 1, by omega, by go_num, ?_, ?_, ?_⟩
        · rw [wrap64_byte]
          exact hide hL2
        · exact below_drewN ((hbx.setCell (p := ⟨w2.heap.size, k * 2, none⟩) hb12.size _).setCell (p := ⟨w2.heap.size, k * 2 + 1, none⟩) hb12.size _) 1
        · exact below_drewN ((hbv.setCell (p := ⟨w2.heap.size, k * 2, none⟩) (Nat.le_refl _) _).setCell (p := ⟨w2.heap.size, k * 2 + 1, none⟩) (Nat.le_refl _) _) 1
      case measure => simp [intOf]; omega
    · have hkd : k = s.size := by omega
      have hL := HL.out
      rw [hkd] at hL
      have hsz := fillP_size f s.size s.size
      have cS := sort_any w2.heap.size s.size (fillP f s.size s.size) wr (by rw [hsz]; omega) hL
      rw [hsz] at cS
      have CS := hide cS
      clear cS hL hsz HL hkd hbv
      rename World => wm
      go_wp2_with fail
      go_at_call 61
      refine CS.out.mono ?_
      rintro e w3 ⟨rfl, d', hds, hp, hso, hL3, hg3⟩
      have hb3 : Below w.heap.size w w3 := hbx.grown hg3 hbx.size (fun j hj => by cases hj; exact hb12.size)
      have hmem : Hid (∀ k, k < s.size → ∃ c : UInt8, d'[k]!.2 = (c.toNat : Int)) := fun k hk => by
        have h1 : d'[k]! ∈ d'.toList := by
          rw [getElem!_pos d' k (by omega)]
          simp
        have h2 := hp.mem_iff.1 h1
        simp only [fillP, List.mem_map, List.mem_range] at h2
        obtain ⟨j, hj, e⟩ := h2
        rw [if_pos hj, HFF.out] at e
        refine ⟨ws.flatten[j]?.getD 0, ?_⟩
        rw [← e]
        rfl
      have HT := hide (turned_of_rows HS.out hN HR.out HFF.out hp hso)
      have HL3 := hide hL3
      have hg2 := hL3.lt
      clear hp hso hL3 CS
      have hdl : d'.toList.length = s.size := by simpa using hds
      go_wp2
      go_loopw [43] (fun kv wr => ∃ (k : Nat) (out : List UInt8), k ≤ s.size ∧ kv = .int .i64 k ∧ out.length = k ∧ Hid (out = (d'.toList.take k).map by2) ∧ Lib.IsBuilder 83 5 w3.heap.size w3.heap.size (Lib.byteCells out) wr ∧ Below w3.heap.size w3 wr) (fun kv _ => s.size - (intOf kv).toNat)
      case atStart => exact ⟨0, [], by omega, rfl, rfl, hide rfl, fresh_one w3, (Below.refl _ _).alloc (Nat.le_refl _) _⟩
      case round =>
        obtain ⟨k, out, hk, rfl, hol, HOut, hB, hbw⟩ := hrel
        by_cases hlt2 : k < s.size
        · obtain ⟨c1, c2⟩ := (HL3.out).cell (j := k) (by omega)
          obtain ⟨c, hc⟩ := hmem.out k hlt2
          have hby : by2 d'[k]! = c := by
            unfold by2
            rw [hc]
            simp
          rw [hc] at c2
          generalize hx : d'[k]!.1 = x1 at c1
          have d1 := (hbw.cell (p := ⟨w2.heap.size, k * 2, none⟩) hg2).trans c1
          have d2 := (hbw.cell (p := ⟨w2.heap.size, k * 2 + 1, none⟩) hg2).trans c2
          have hclt := c.toNat_lt
          have hw8 : IntKind.u8.wrap (c.toNat : Int) = (c.toNat : Int) := by
            simp [IntKind.wrap, IntKind.bits, IntKind.signed]
            omega
          have HBY := hide hby
          have hbsz := hbw.size
          clear hx c1 c2 hc hby
          have hB' : Lib.IsBuilder 83 5 w3.heap.size w3.heap.size (Lib.byteCells out) (wr.alloc (.cells #[.int .i64 x1, .int .i64 (c.toNat : Int)] 77)) := builder_kept hB (World.grownBy_alloc wr _ (some w2.heap.size)) hg2
          have cW := write_any w3.heap.size w3.heap.size (Lib.byteCells out) (c.toNat : Int) _ hB' (by rw [Lib.byteCells_length]; omega) (Nat.le_trans hbsz (World.grownBy_alloc _ _ none).size)
          have CW := hide cW
          clear cW hB'
          go_wp2_with fail
          go_at_call 63
          refine CW.out.mono ?_
          rintro e w4 ⟨rfl, hB4, hb4⟩
          go_wp2
          go_roundw
          case rel =>
            refine ⟨k + 1, out ++ [c], by omega, by go_num, by rw [List.length_append]; simp; omega, ?_, ?_, (hbw.alloc hbsz _).trans hb4⟩
            · apply hide
              have hx : d'.toList[k]? = some d'[k]! := by
                rw [Array.getElem?_toList, Array.getElem?_eq_getElem (by omega), getElem!_pos d' k (by omega)]
              rw [HOut.out, Tur.take_next hx, List.map_append, List.map_cons, List.map_nil, HBY.out]
            · rw [← byteCells_snoc]
              exact .inr hB4
          case measure => simp [intOf]; omega
        · have hkd : k = s.size := by omega
          go_wp2_with (go_at_call 64; refine (Tryz.Builder_String_any _ _ _ _ hB hbw.size).mono ?_; rintro e w4 ⟨rfl, hb4⟩)
          go_ret
          refine ⟨out, ws, rfl, HG.out, HF.out, ?_, (hb3.trans (hbw.mono hb3.size)).trans (hb4.mono hb3.size)⟩
          have := HOut.out
          rw [hkd, ← hdl, List.take_length] at this
          rw [this]
          exact HT.out
end Go.Proofs.YtkiindkoiomieaaGreatDoor
end

section
/-
  P4: turned, where there is no byte; Turn and Back.
-/
namespace Go.Proofs.YtkiindkoiomieaaGreatDoor
open Go.RowKit Go.Lib Go.Sort

set_option maxHeartbeats 1000000 in
set_option maxRecDepth 100000 in
theorem ranking_none (s : ByteArray) (v : Value) (w : World) (h0 : s.size = 0) :
    Calls Tryz.prog 60 #[.string s, v] w fun e w' => e = .returned (.slice (some ⟨w.heap.size, 0, none⟩) 0 0) ∧ w' = w.alloc (.cells (cellsN []) 3) := by
  have hmi : ∀ W : World, (Instr.makeSlice 23 (.int .i64 0) (.int .i64 0)).run Tryz.prog W = .ok (.slice (some ⟨W.heap.size, 0, none⟩) 0 0) (W.alloc (.cells (cellsN []) 3)) := fun W => make_ints 0 (by omega) W
  go_enter Tryz.func60, Tryz.ntmps60
  go_wp2
  refine wp_loop_rounds 1 ?_
  rw [rounds_succ]
  go_wp2
  refine wp_loop_rounds 1 ?_
  rw [rounds_succ]
  go_wp2
  go_ret
  exact ⟨rfl, rfl⟩

theorem sort_none (p : Option Addr) (cap : Nat) (fv : Value) (w : World) :
    Calls Tryz.prog 61 #[.slice p 0 cap, fv] w fun e w' => e = .returned (.tuple #[]) ∧ w' = w :=
  AnyF.slices_SortFunc_none Tryz.sortPair p cap fv w

set_option maxHeartbeats 1000000 in
set_option maxRecDepth 100000 in
theorem turned_none (s : ByteArray) (w : World) (h0 : s.size = 0) :
    Calls Tryz.prog 34 #[.string s] w fun e w' => e = .returned (strV []) ∧ Below w.heap.size w w' := by
  obtain ⟨cs, hmk, hsize, hlie⟩ := make_pairs 0 (by omega)
  have hmk' : ∀ W : World, (Instr.makeSlice 75 (.int .i64 0) (.int .i64 0)).run Tryz.prog W = .ok (.slice (some ⟨W.heap.size, 0, none⟩) 0 0) (W.alloc (.cells cs 77)) := hmk
  clear hlie hsize hmk
  go_enter Tryz.func34, Tryz.ntmps34
  go_wp2_with fail
  go_at_call 59
  refine (next_places s w (by omega)).mono ?_
  rintro e w1 ⟨v, ws, rfl, _, _, _, hb1⟩
  go_wp2_with fail
  go_at_call 60
  refine (ranking_none s v w1 h0).mono ?_
  rintro e w2 ⟨rfl, hw2⟩
  have hb2 : Below w.heap.size w w2 := by rw [hw2]; exact hb1.alloc hb1.size _
  clear hw2
  go_wp2
  refine wp_loop_rounds 1 ?_
  rw [rounds_succ]
  go_wp2_with (go_at_call 61; refine (sort_none _ _ _ _).mono ?_; rintro e w3 ⟨rfl, rfl⟩)
  refine wp_loop_rounds 1 ?_
  rw [rounds_succ]
  have hb3 : Below w.heap.size w (w2.alloc (.cells cs 77)) := hb2.alloc hb2.size _
  have hsz : (w2.alloc (.cells cs 77)).heap.size = w2.heap.size + 1 := by simp
  have hB := fresh_one (w2.alloc (.cells cs 77))
  rw [hsz] at hB
  go_wp2_with (go_at_call 64; refine (Tryz.Builder_String_any _ _ _ _ hB (by simp)).mono ?_; rintro e w4 ⟨rfl, hb4⟩)
  go_ret
  refine ⟨rfl, ?_⟩
  have h5 := hb3.alloc hb3.size (.cells #[.pointer none, .slice none 0 0] 83)
  exact h5.trans (hb4.mono (by have := hb2.size; omega))

theorem good_none : Duv.Good [] := Duv.Good.nil
theorem turned_nil : Tur.Turned [] [] := Tur.turned_of (o := []) (List.Perm.refl _) List.Pairwise.nil

theorem turned_all (s : ByteArray) (w : World) (hs : s.size ≤ 300) :
    Calls Tryz.prog 34 #[.string s] w fun e w' => ∃ (t : List UInt8) (ws : List (List UInt8)), e = .returned (strV t) ∧ Duv.Good ws ∧ ws.flatten = s.data.toList ∧ Tur.Turned ws t ∧ Below w.heap.size w w' := by
  by_cases h0 : 0 < s.size
  · exact turned_any s w hs h0
  · have h1 : s.size = 0 := by omega
    refine (turned_none s w h1).mono ?_
    rintro e w' ⟨rfl, hb⟩
    have e0 : s.data.toList = [] := List.eq_nil_of_length_eq_zero (by rw [← Lib.size_eq]; exact h1)
    exact ⟨[], [], rfl, good_none, by rw [e0]; rfl, turned_nil, hb⟩

set_option maxHeartbeats 400000 in
theorem turn_short (s : ByteArray) (w : World) (hs : s.size ≤ 300) :
    Calls Tryz.prog 16 #[.string s] w fun e w' => ∃ (t : List UInt8) (ws : List (List UInt8)), e = .returned (.tuple #[strV t, .int .i64 0]) ∧ Duv.Good ws ∧ ws.flatten = s.data.toList ∧ Tur.Turned ws t ∧ Below w.heap.size w w' := by
  go_enter Tryz.func16, Tryz.ntmps16
  go_wp2_with (go_at_call 34; refine (turned_all _ _ hs).mono ?_; rintro e w' ⟨t, ws, rfl, h1, h2, h3, h4⟩; have H2 := hide h2; clear h2)
  go_ret2
  exact ⟨t, ws, rfl, h1, H2.out, h3, h4⟩

set_option maxHeartbeats 400000 in
theorem back_short (s : ByteArray) (w : World) (hs : s.size ≤ 300) :
    Calls Tryz.prog 32 #[.string s] w fun e w' => ∃ (b : List UInt8) (ws : List (List UInt8)), e = .returned (.tuple #[strV b, .int .i64 0]) ∧ Duv.Good ws ∧ ws.flatten = b ∧ Tur.Turned ws s.data.toList ∧ Below w.heap.size w w' := by
  go_enter Tryz.func32, Tryz.ntmps32
  go_wp2_with (go_at_call 58; refine (turnedBack_any _ _ (by omega)).mono ?_; rintro e w' ⟨b, ws, rfl, h1, h2, h3, h4⟩; have H2 := hide h2; clear h2)
  go_ret2
  exact ⟨b, ws, rfl, h1, H2.out, h3, h4⟩

set_option maxHeartbeats 400000 in
theorem turn_long (s : ByteArray) (w : World) (hs : 300 < s.size) (hm : s.size ≤ 9223372036854775807) :
    Calls Tryz.prog 16 #[.string s] w fun e w' => e = .returned (.tuple #[.string ⟨#[]⟩, .int .i64 1]) ∧ w' = w := by
  go_enter Tryz.func16, Tryz.ntmps16
  go_wp2
  go_ret2
  exact ⟨rfl, rfl⟩

set_option maxHeartbeats 400000 in
theorem back_long (s : ByteArray) (w : World) (hs : 300 < s.size) (hm : s.size ≤ 9223372036854775807) :
    Calls Tryz.prog 32 #[.string s] w fun e w' => e = .returned (.tuple #[.string ⟨#[]⟩, .int .i64 1]) ∧ w' = w := by
  go_enter Tryz.func32, Tryz.ntmps32
  go_wp2
  go_ret2
  exact ⟨rfl, rfl⟩
end Go.Proofs.YtkiindkoiomieaaGreatDoor
end

section
/-
  P4: the walk of counted.
-/
namespace Go.Proofs.YtkiindkoiomieaaGreatDoor
open Go.RowKit Go.Lib

/-- Numbers, by a function, as cells. -/
def cellsF (f : Nat → Int) : Array Value := ((List.range 256).map fun c => Value.int .i64 (f c)).toArray

theorem cellsF_at (f : Nat → Int) {c : Nat} (h : c < 256) : (cellsF f)[c]? = some (.int .i64 (f c)) := by simp [cellsF, h]
theorem cellsF_set (f : Nat → Int) (c : Nat) (v : Int) : (cellsF f).setIfInBounds c (.int .i64 v) = cellsF (fun x => if x = c then v else f x) := by
  unfold cellsF
  apply Array.ext
  · simp
  · intro i h1 h2
    simp only [List.setIfInBounds_toArray, List.getElem_toArray, List.getElem_set, List.getElem_map, List.getElem_range]
    by_cases e : c = i
    · subst e; simp
    · rw [if_neg e, if_neg (fun h => e h.symm)]

/-- How many bytes of that worth. -/
def cnt (l : List UInt8) (c : Nat) : Int := (l.countP fun b => b.toNat == c : Nat)

theorem cnt_next {l : List UInt8} {k : Nat} {b : UInt8} (h : l[k]? = some b) (c : Nat) : cnt (l.take (k + 1)) c = cnt (l.take k) c + if c = b.toNat then 1 else 0 := by
  unfold cnt
  rw [Tur.take_next h, List.countP_append]
  by_cases e : c = b.toNat
  · subst e; simp
  · have : (b.toNat == c) = false := by simpa using fun h => e h.symm
    simp [e, this]

theorem cnt_bound (l : List UInt8) (c : Nat) : 0 ≤ cnt l c ∧ cnt l c ≤ (l.length : Int) := by
  unfold cnt
  have := List.countP_le_length (p := fun b : UInt8 => b.toNat == c) (l := l)
  omega

theorem cnt_none (l m : List UInt8) : (fun c => cnt l c - cnt (m.take 0) c) = cnt l := by
  funext c
  have : cnt (m.take 0) c = 0 := by simp [cnt]
  omega

theorem repl_range (n : Nat) : ((List.replicate n 0).map fun x : Nat => Value.int .i64 (x : Int)) = (List.range n).map fun _ => Value.int .i64 0 := by
  apply List.ext_getElem
  · simp
  · intro i h1 h2
    simp

theorem make_256 (W : World) : (Instr.makeSlice 23 (.int .i64 256) (.int .i64 256)).run Tryz.prog W = .ok (.slice (some ⟨W.heap.size, 0, none⟩) 256 256) (W.alloc (.cells (cellsF fun _ => 0) 3)) := by
  have h := make_ints 256 (by omega) W
  have e : cellsN (List.replicate 256 0) = cellsF fun _ => 0 := congrArg List.toArray (repl_range 256)
  rw [e] at h
  exact h

theorem byte_get (s : ByteArray) (k : Nat) (h : k < s.size) : s.data.toList[k]? = some s[k] := by
  have h' : k < s.data.toList.length := by simpa using h
  rw [List.getElem?_eq_getElem h']
  rfl

set_option maxHeartbeats 1000000 in
set_option maxRecDepth 100000 in
theorem counted_any (s t : ByteArray) (w : World) (hs : s.size ≤ 300) (ht : t.size ≤ 300) (hp : t.data.toList.Perm s.data.toList) :
    Calls Tryz.prog 33 #[.string s, .string t] w fun e w' => e = .returned (.bool true) ∧ Below w.heap.size w w' := by
  have hmk := make_256
  have HP := hide hp
  clear hp
  go_enter Tryz.func33, Tryz.ntmps33
  go_wp2
  clear hmk
  go_loopw [6] (fun i wr => ∃ k : Nat, k ≤ s.size ∧ i = .int .i64 k ∧ Hid (wr.heap[w.heap.size]? = some (.cells (cellsF (cnt (s.data.toList.take k))) 3 (0, 0))) ∧ Below w.heap.size w wr) (fun i _ => s.size - (intOf i).toNat)
  case atStart => exact ⟨0, by omega, rfl, hide (heap_alloc_new _ _), (Below.refl _ _).alloc (Nat.le_refl _) _⟩
  case round =>
    obtain ⟨k, hk, rfl, HH, hbx⟩ := hrel
    by_cases hlt : k < s.size
    · have hclt : s[k].toNat < 256 := s[k].toNat_lt
      have c1 := cell_here HH.out (cellsF_at (cnt (s.data.toList.take k)) hclt)
      have f1 := frozen_of_row _ w.heap.size s[k].toNat _ _ HH.out
      have hbd := cnt_bound (s.data.toList.take k) s[k].toNat
      have hle : (s.data.toList.take k).length ≤ 300 := by
        rw [List.length_take, ← Lib.size_eq]
        omega
      generalize hv : cnt (s.data.toList.take k) s[k].toNat = v at c1 hbd
      have HV := hide hv
      have v1 : 0 ≤ v := hbd.1
      have v2 : v ≤ 300 := by omega
      clear hv hbd hle
      go_wp2
      go_roundw
      case rel =>
        refine ⟨k + 1, by omega, by go_num, ?_, hbx.setCell (p := ⟨w.heap.size, s[k].toNat, none⟩) (Nat.le_refl _) _⟩
        apply hide
        rw [heap_setCell_same _ _ _ _ _ _ HH.out, cellsF_set]
        congr 3
        funext c
        rw [cnt_next (byte_get s k hlt)]
        by_cases e : c = s[k].toNat
        · subst e
          rw [if_pos rfl, if_pos rfl, HV.out]
        · rw [if_neg e, if_neg e, Int.add_zero]
      case measure => simp [intOf]; omega
    · have hks : k = s.size := by omega
      have hH := HH.out
      rw [hks, List.take_of_length_le (by rw [← Lib.size_eq]; exact Nat.le_refl _)] at hH
      have HS := hide hH
      clear hH HH hks
      go_wp2
      go_loopw [7] (fun i wr => ∃ k : Nat, k ≤ t.size ∧ i = .int .i64 k ∧ Hid (wr.heap[w.heap.size]? = some (.cells (cellsF fun c => cnt s.data.toList c - cnt (t.data.toList.take k) c) 3 (0, 0))) ∧ Below w.heap.size w wr) (fun i _ => t.size - (intOf i).toNat)
      case atStart => exact ⟨0, by omega, rfl, by rw [cnt_none]; exact HS, hbx⟩
      case round =>
        clear hbx HS
        obtain ⟨k, hk, rfl, HH, hbx⟩ := hrel
        by_cases hlt : k < t.size
        · have hclt : t[k].toNat < 256 := t[k].toNat_lt
          have c1 := cell_here HH.out (cellsF_at (fun c => cnt s.data.toList c - cnt (t.data.toList.take k) c) hclt)
          have f1 := frozen_of_row _ w.heap.size t[k].toNat _ _ HH.out
          have hb1 := cnt_bound (t.data.toList.take k) t[k].toNat
          have hb2 := cnt_bound s.data.toList t[k].toNat
          have hle : (t.data.toList.take k).length ≤ 300 := by
            rw [List.length_take, ← Lib.size_eq]
            omega
          have hle2 : s.data.toList.length ≤ 300 := by
            rw [← Lib.size_eq]
            exact hs
          generalize hv : cnt s.data.toList t[k].toNat - cnt (t.data.toList.take k) t[k].toNat = v at c1
          have HV := hide hv
          have v1 : -300 ≤ v := by omega
          have v2 : v ≤ 300 := by omega
          clear hv hb1 hb2 hle hle2
          go_wp2
          go_roundw
          case rel =>
            refine ⟨k + 1, by omega, by go_num, ?_, hbx.setCell (p := ⟨w.heap.size, t[k].toNat, none⟩) (Nat.le_refl _) _⟩
            apply hide
            rw [heap_setCell_same _ _ _ _ _ _ HH.out, cellsF_set]
            congr 3
            funext c
            rw [cnt_next (byte_get t k hlt)]
            by_cases e : c = t[k].toNat
            · subst e
              rw [if_pos rfl, if_pos rfl, ← HV.out]
              omega
            · rw [if_neg e, if_neg e, Int.add_zero]
          case measure => simp [intOf]; omega
        · have hks : k = t.size := by omega
          have hH := HH.out
          rw [hks, List.take_of_length_le (by rw [← Lib.size_eq]; exact Nat.le_refl _)] at hH
          have e0 : (fun c => cnt s.data.toList c - cnt t.data.toList c) = fun _ => (0 : Int) := by
            funext c
            unfold cnt
            rw [HP.out.countP_eq]
            omega
          rw [e0] at hH
          have HS := hide hH
          clear hH HH hks e0
          go_wp2
          go_loopw [8] (fun i w' => ∃ k : Nat, k ≤ 256 ∧ i = .int .i64 k ∧ w' = wr) (fun i _ => 256 - (intOf i).toNat)
          case atStart => exact ⟨0, by omega, rfl, rfl⟩
          case round =>
            obtain ⟨k, hk, rfl, rfl⟩ := hrel
            by_cases hlt3 : k < 256
            · have c1 := cell_here HS.out (cellsF_at (fun _ => 0) hlt3)
              go_wp2
              go_roundw
              case rel => exact ⟨k + 1, by omega, by go_num, by first | rfl | trivial⟩
              case measure => simp [intOf]; omega
            · go_wp2
              go_ret
              exact ⟨rfl, hbx⟩
end Go.Proofs.YtkiindkoiomieaaGreatDoor
end

section
/-
  P4: the walks of both and Both.
-/
namespace Go.Proofs.YtkiindkoiomieaaGreatDoor
open Go.RowKit Go.Lib

/-- Turn, where the words and the answer are known. -/
theorem turn_is (s : ByteArray) (ws : List (List UInt8)) (t : List UInt8) (w : World) (hs : s.size ≤ 300) (hg : Duv.Good ws) (hf : ws.flatten = s.data.toList) (ht : Tur.Turned ws t) :
    Calls Tryz.prog 16 #[.string s] w fun e w' => e = .returned (.tuple #[strV t, .int .i64 0]) ∧ Below w.heap.size w w' := by
  refine (turn_short s w hs).mono ?_
  rintro e w' ⟨t', us, rfl, g2, f2, t2, hb⟩
  have e := Tur.good_unique us ws g2 hg (f2.trans hf.symm)
  subst e
  rw [t2.unique ht]
  exact ⟨rfl, hb⟩

/-- Back, where the words and the text are known. -/
theorem back_is (s : ByteArray) (ws : List (List UInt8)) (b : List UInt8) (w : World) (hs : s.size ≤ 300) (hg : Duv.Good ws) (hf : ws.flatten = b) (ht : Tur.Turned ws s.data.toList) :
    Calls Tryz.prog 32 #[.string s] w fun e w' => e = .returned (.tuple #[strV b, .int .i64 0]) ∧ Below w.heap.size w w' := by
  refine (back_short s w hs).mono ?_
  rintro e w' ⟨b', us, rfl, g2, f2, t2, hb⟩
  have e := Tur.turned_inj g2 hg t2 ht
  subst e
  rw [← f2, hf]
  exact ⟨rfl, hb⟩

theorem strV_is (s : ByteArray) : strV s.data.toList = .string s := rfl

set_option maxHeartbeats 1000000 in
set_option maxRecDepth 100000 in
theorem law_both (s : ByteArray) (w : World) (hm : s.size ≤ maxLen) :
    Calls Tryz.prog 15 #[.string s] w fun e w' => e = .returned (.bool true) ∧ Below w.heap.size w w' := by
  unfold maxLen at hm
  by_cases hs : s.size ≤ 300
  · go_enter Tryz.func15, Tryz.ntmps15
    go_wp2_with fail
    go_at_call 16
    refine (turn_short s w hs).mono ?_
    rintro e w1 ⟨t, ws, rfl, g1, f1, t1, hb1⟩
    obtain ⟨T, hT⟩ : ∃ T : ByteArray, T = ⟨t.toArray⟩ := ⟨_, rfl⟩
    have hTd : T.data.toList = t := by rw [hT]
    have hTs : T.size = s.size := by
      have := t1.length
      rw [f1, ← Lib.size_eq] at this
      rw [Lib.size_eq, hTd, this]
    have eT : strV t = .string T := by rw [hT]; rfl
    have c2 := fun W => back_is T ws s.data.toList W (by omega) g1 f1 (by rw [hTd]; exact t1)
    rw [strV_is] at c2
    have p1 : T.data.toList.Perm s.data.toList := by rw [hTd, ← f1]; exact t1.perm
    have k1 := fun W => counted_any s T W hs (by omega) p1
    have C2 := hide c2
    have K1 := hide k1
    rw [eT]
    clear c2 k1 p1 g1 f1 t1 hT hTd eT
    go_wp2_with fail
    go_at_call 32
    refine (C2.out _).mono ?_
    rintro e w2 ⟨rfl, hb2⟩
    go_wp2_with fail
    go_at_call 32
    refine (back_short s w2 hs).mono ?_
    rintro e w3 ⟨v, us, rfl, g3, f3, t3, hb3⟩
    obtain ⟨V, hV⟩ : ∃ V : ByteArray, V = ⟨v.toArray⟩ := ⟨_, rfl⟩
    have hVd : V.data.toList = v := by rw [hV]
    have hVs : V.size = s.size := by
      have := t3.length
      rw [f3, ← Lib.size_eq] at this
      rw [Lib.size_eq, hVd, this]
    have eV : strV v = .string V := by rw [hV]; rfl
    have c4 := fun W => turn_is V us s.data.toList W (by omega) g3 (by rw [hVd]; exact f3) t3
    rw [strV_is] at c4
    have p2 : V.data.toList.Perm s.data.toList := by
      rw [hVd, ← f3]
      exact t3.perm.symm
    have k2 := fun W => counted_any s V W hs (by omega) p2
    have C4 := hide c4
    have K2 := hide k2
    rw [eV]
    clear c4 k2 p2 g3 f3 t3 hV hVd eV hTs hVs
    go_wp2_with fail
    go_at_call 16
    refine (C4.out _).mono ?_
    rintro e w4 ⟨rfl, hb4⟩
    have hdl : decide ((300 : Int) < (s.size : Int)) = false := decide_eq_false (by omega)
    go_wp2_with (go_at_call 12; go_in)
    go_at_call 33
    refine (K1.out _).mono ?_
    rintro e w5 ⟨rfl, hb5⟩
    go_wp2_with fail
    go_at_call 33
    refine (K2.out _).mono ?_
    rintro e w6 ⟨rfl, hb6⟩
    go_wp2_with (go_at_call 13; refine (num_any _ _).mono ?_; rintro e w' ⟨rfl, hw⟩; rw [hw]; clear hw w')
    go_ret
    have s1 := hb1.size
    have s2 := hb2.size
    have s3 := hb3.size
    have s4 := hb4.size
    have s5 := hb5.size
    exact ⟨rfl, ((((hb1.trans (hb2.mono s1)).trans (hb3.mono (by omega))).trans (hb4.mono (by omega))).trans (hb5.mono (by omega))).trans (hb6.mono (by omega))⟩
  · have e0 : (⟨#[]⟩ : ByteArray).size ≤ 300 := by decide
    have c2 := fun W => back_is ⟨#[]⟩ [] [] W e0 good_none rfl turned_nil
    have c4 := fun W => turn_is ⟨#[]⟩ [] [] W e0 good_none rfl turned_nil
    have C2 := hide c2
    have C4 := hide c4
    have hdl : decide ((300 : Int) < (s.size : Int)) = true := decide_eq_true (by omega)
    clear c2 c4 e0
    go_enter Tryz.func15, Tryz.ntmps15
    go_wp2_with fail
    go_at_call 16
    refine (turn_long s w (by omega) hm).mono ?_
    rintro e w' ⟨rfl, hw⟩
    rw [hw]
    clear hw w'
    go_wp2_with fail
    go_at_call 32
    refine (C2.out _).mono ?_
    rintro e w2 ⟨rfl, hb2⟩
    go_wp2_with fail
    go_at_call 32
    refine (back_long s w2 (by omega) hm).mono ?_
    rintro e w' ⟨rfl, hw⟩
    rw [hw]
    clear hw w'
    go_wp2_with fail
    go_at_call 16
    refine (C4.out _).mono ?_
    rintro e w4 ⟨rfl, hb4⟩
    go_wp2_with (first
      | (go_at_call 13; refine (num_any _ _).mono ?_; rintro e w' ⟨rfl, hw⟩; rw [hw]; clear hw w')
      | go_in)
    go_ret
    exact ⟨rfl, hb2.trans (hb4.mono hb2.size)⟩

set_option maxHeartbeats 1000000 in
set_option maxRecDepth 100000 in
theorem both_any (b off len cap : Nat) (S : Nat → ByteArray) (w : World) (hlen : len ≤ 9223372036854775807) (hb : b < w.heap.size)
    (hc : ∀ k, k < len → w.cell? ⟨b, off + k * 5 + 2, none⟩ = some (.string (S k)) ∧ (S k).size ≤ maxLen)
    (hal : ∀ W, Calls Tryz.prog 14 #[] W fun e w' => e = .returned (.bool true) ∧ Below W.heap.size W w') :
    Calls Tryz.prog 4 #[.slice (some ⟨b, off, none⟩) len cap] w fun e w' => e = .returned (.bool true) ∧ Below w.heap.size w w' := by
  have HC := hide hc
  have HAL := hide hal
  clear hc hal
  go_enter Tryz.func4, Tryz.ntmps4
  go_wp2
  go_loopw [3] (fun i wr => ∃ k : Nat, k ≤ len ∧ i = .int .i64 k ∧ Below w.heap.size w wr) (fun i _ => len - (intOf i).toNat)
  case atStart => exact ⟨0, Nat.zero_le _, rfl, Below.refl _ _⟩
  case round =>
    obtain ⟨k, hk, rfl, hbx⟩ := hrel
    by_cases hlt : k < len
    · by_cases hbig : (k : Int) < 1152921504606846976
      · have hd : decide ((k : Int) < 1152921504606846976) = true := decide_eq_true hbig
        clear hbig
        have hcell : wr.cell? ⟨b, off + k * 5 + 2, none⟩ = some (.string (S k)) := (hbx.cell (p := ⟨b, off + k * 5 + 2, none⟩) hb).trans (HC.out k hlt).1
        have cW := hide (law_both (S k) wr (HC.out k hlt).2)
        go_wp2_with (go_at_call 15; refine (unhide cW).mono ?_; rintro e w' ⟨rfl, hb2⟩)
        go_roundw
        case rel => exact ⟨k + 1, by omega, by go_num, hbx.trans (hb2.mono hbx.size)⟩
        case measure => simp [intOf]; omega
      · have hd : decide ((k : Int) < 1152921504606846976) = false := decide_eq_false hbig
        clear hbig
        go_wp2_with (go_at_call 14; refine (HAL.out _).mono ?_; rintro e w1 ⟨rfl, hb1⟩)
        go_ret
        exact ⟨rfl, hbx.trans (hb1.mono hbx.size)⟩
    · go_wp2_with (go_at_call 14; refine (HAL.out _).mono ?_; rintro e w1 ⟨rfl, hb1⟩)
      go_ret
      exact ⟨rfl, hbx.trans (hb1.mono hbx.size)⟩
end Go.Proofs.YtkiindkoiomieaaGreatDoor
end

section
/-
  P6: the walks of the writer: put, putNumbers.
-/
namespace Go.Proofs.YtkiindkoiomieaaGreatDoor
open Go.RowKit

theorem cell_of_bit {x : Nat} (h : x < 2) : Value.int .u8 (48 + (x : Int)) = .int .u8 ((UInt8.ofNat (48 + x)).toNat : Int) := by
  congr 1
  simp
  omega

set_option maxHeartbeats 400000 in
set_option maxRecDepth 100000 in
theorem put_any (B b x : Nat) (out : List UInt8) (w : World) (hx : x < 2) (h : Lib.IsBuilder 83 5 B b (Lib.byteCells out) w) (hlen : out.length ≤ 1000000) (hBw : B ≤ w.heap.size) :
    Calls Tryz.prog 68 #[.int .i64 x, .pointer (some ⟨b, 0, none⟩)] w fun e w' => e = .returned (.tuple #[]) ∧ Lib.IsBuilder 83 5 B b (Lib.byteCells (out ++ [UInt8.ofNat (48 + x)])) w' ∧ Below B w w' := by
  have cW := hide (write_any B b (Lib.byteCells out) (48 + (x : Int)) w h (by rw [Lib.byteCells_length]; exact hlen) hBw)
  clear h
  have h1 : IntKind.u8.wrap (x : Int) = x := IntWalk.u8_in _ (by omega)
  have h2 : IntKind.u8.wrap (48 + (x : Int)) = 48 + (x : Int) := IntWalk.u8_in _ (by omega)
  go_enter Tryz.func68, Tryz.ntmps68
  go_wp2_with (go_at_call 63; refine (unhide cW).mono ?_; rintro e w' ⟨rfl, hb, hbl⟩)
  go_end0
  refine ⟨rfl, ?_, hbl⟩
  rw [← byteCells_snoc, ← cell_of_bit hx]
  exact .inr hb

theorem and_one (m : Nat) (h : m ≤ 1073741824) : bits .and .i64 (m : Int) 1 = ((m % 2 : Nat) : Int) := by
  have e : (BitVec.ofInt 64 (m : Int) &&& BitVec.ofInt 64 1).toNat = m % 2 := by
    rw [BitVec.toNat_and]
    have h1 : (BitVec.ofInt 64 (m : Int)).toNat = m := by
      rw [BitVec.toNat_ofInt]
      omega
    have h2 : (BitVec.ofInt 64 1).toNat = 1 := by decide
    rw [h1, h2, Nat.and_one_is_mod]
  show IntKind.i64.wrap ((BitVec.ofInt 64 (m : Int) &&& BitVec.ofInt 64 1).toNat : Int) = _
  rw [e]
  exact IntWalk.i64_in _ (by omega)

theorem bit_of (n q : Nat) (h : n ≤ 1073741824) : bits .and .i64 ((n : Int) / 2 ^ q) 1 = ((n / 2 ^ q % 2 : Nat) : Int) := by
  have e : (n : Int) / 2 ^ q = ((n / 2 ^ q : Nat) : Int) := by
    rw [Int.natCast_ediv]
    simp
  rw [e]
  exact and_one _ (Nat.le_trans (Nat.div_le_self _ _) h)

set_option maxHeartbeats 1000000 in
set_option maxRecDepth 100000 in
theorem putNumbers_any (B b : Nat) (ao : Option Addr) (len cap : Nat) (zs : List Int) (lb lo : Nat) (w : World) (hz : zs.length = len) (hr : ∀ z ∈ zs, 1 ≤ z ∧ z ≤ 1073741824) (hl : len ≤ 100)
    (hao : 0 < len → ao = some ⟨lb, lo, none⟩ ∧ lb < B) (hc : ∀ j z, zs[j]? = some z → w.cell? ⟨lb, lo + j, none⟩ = some (.int .i64 z)) (h : Lib.IsBuilder 83 5 B b (Lib.byteCells []) w) (hBw : B ≤ w.heap.size) :
    Calls Tryz.prog 38 #[.func (.func 68) #[] #[.pointer (some ⟨b, 0, none⟩)], .slice ao len cap] w fun e w' => e = .returned (.tuple #[]) ∧ Lib.IsBuilder 83 5 B b (Lib.byteCells (gammaL zs)) w' ∧ Below B w w' := by
  have HR := hide hr
  have HC := hide hc
  have HA := hide hao
  clear hr hc hao
  go_enter Tryz.func38, Tryz.ntmps38
  go_wp2
  go_loopw [10] (fun i wr => ∃ k : Nat, k ≤ len ∧ i = .int .i64 k ∧ Lib.IsBuilder 83 5 B b (Lib.byteCells (gammaL (zs.take k))) wr ∧ Below B w wr) (fun i _ => len - (intOf i).toNat)
  case atStart => exact ⟨0, Nat.zero_le _, rfl, h, Below.refl _ _⟩
  case round =>
    clear h
    obtain ⟨k, hk, rfl, hB, hbx⟩ := hrel
    by_cases hlt : k < len
    · obtain ⟨z, hzk⟩ : ∃ z, zs[k]? = some z := ⟨_, List.getElem?_eq_getElem (by omega)⟩
      obtain ⟨rfl, hlb⟩ := HA.out (by omega)
      obtain ⟨n, hn⟩ : ∃ n : Nat, z = (n : Int) := ⟨z.toNat, by have := HR.out z (List.mem_of_getElem? hzk); omega⟩
      subst hn
      have hzr := HR.out _ (List.mem_of_getElem? hzk)
      have hcell : wr.cell? ⟨lb, lo + k, none⟩ = some (.int .i64 n) := (hbx.cell (p := ⟨lb, lo + k, none⟩) hlb).trans (HC.out k _ hzk)
      have hdb := dig_bounds (n := n) (by omega) (by omega)
      have cLen := Tryz.bits_Len (n : Int) wr (by omega) (by omega)
      rw [Int.toNat_natCast] at cLen
      obtain ⟨d, hd⟩ : ∃ d, d = dig n := ⟨_, rfl⟩
      have hd' : Lib.bitLen n = d := hd.symm
      rw [hd'] at cLen
      rw [← hd] at hdb
      have HD := hide hd
      have CL := hide cLen
      have hw : IntKind.u64.wrap (n : Int) = n := IntWalk.u64_in _ (by omega)
      obtain ⟨hd1, hd2, hd3, hd4⟩ := hdb
      have HDB := hide (And.intro hd3 hd4)
      have HZ := hide hzk
      clear hd hd' cLen hd3 hd4 hzk
      go_wp2_with (go_at_call 69; refine (unhide CL).mono ?_; rintro e w' ⟨rfl, rfl⟩)
      obtain ⟨A, hA⟩ : ∃ A, A = gammaL (zs.take k) := ⟨_, rfl⟩
      rw [← hA] at hB
      have hAl : A.length ≤ 6100 := by
        rw [hA]
        have h1 := gammaL_length (zs.take k) fun y hy => HR.out y (List.mem_of_mem_take hy)
        have h2 : (zs.take k).length ≤ 100 := by simp; omega
        omega
      have HA2 := hide hA
      clear hA hcell
      go_loopw [19] (fun i wr => ∃ j : Nat, j ≤ d - 1 ∧ i = .int .i64 j ∧ Lib.IsBuilder 83 5 B b (Lib.byteCells (A ++ List.replicate j 48)) wr ∧ Below B w wr) (fun i _ => d - 1 - (intOf i).toNat)
      case atStart => exact ⟨0, Nat.zero_le _, rfl, by rw [List.replicate_zero, List.append_nil]; exact hB, hbx⟩
      case round =>
        clear hB hbx
        obtain ⟨j, hj, rfl, hB, hbx⟩ := hrel
        by_cases hjd : j < d - 1
        · have cP := hide (put_any B b 0 (A ++ List.replicate j 48) wr (by omega) hB (by simp; omega) (by have := hbx.size; omega))
          clear hB
          go_wp2_with (go_at_call 68; refine (unhide cP).mono ?_; rintro e w2 ⟨rfl, hB2, hbl2⟩)
          go_roundw
          case rel => exact ⟨j + 1, by omega, by go_num, by rw [List.replicate_succ', ← List.append_assoc]; exact hB2, hbx.trans hbl2⟩
          case measure => simp [intOf]; omega
        · have hje : j = d - 1 := by omega
          have HJ := hide hje
          have hdec : decide ((j : Int) < (d : Int) - 1) = false := decide_eq_false (by omega)
          clear hje
          go_wp2
          go_loopw [7] (fun i wr => ∃ (r : Nat) (done : List UInt8), r ≤ d ∧ i = .int .i64 ((r : Int) - 1) ∧ done.length ≤ 31 ∧ Hid (done ++ lowB r n = lowB d n) ∧ Lib.IsBuilder 83 5 B b (Lib.byteCells (A ++ List.replicate (d - 1) 48 ++ done)) wr ∧ Below B w wr) (fun i _ => (intOf i + 1).toNat)
          case atStart => exact ⟨d, [], Nat.le_refl _, rfl, Nat.zero_le _, rfl, by rw [List.append_nil, ← HJ.out]; exact hB, hbx⟩
          case round =>
            clear hB hbx
            obtain ⟨r, done, hrd, rfl, hdl, HL, hB, hbx⟩ := hrel
            by_cases hr0 : 0 < r
            · obtain ⟨q, rfl⟩ : ∃ q, r = q + 1 := ⟨r - 1, by omega⟩
              obtain ⟨x, hx⟩ : ∃ x, x = n / 2 ^ q % 2 := ⟨_, rfl⟩
              have hbit : bits .and .i64 ((n : Int) / 2 ^ q) 1 = (x : Int) := by rw [hx]; exact bit_of n q (by omega)
              have hx2 : x < 2 := by rw [hx]; exact Nat.mod_lt _ (by omega)
              have HX := hide hx
              have hdq : done.length + (q + 1) = d := by
                have := congrArg List.length HL.out
                rw [List.length_append, lowB_length, lowB_length] at this
                exact this
              have HQ := hide hdq
              have cP := hide (put_any B b x (A ++ List.replicate (d - 1) 48 ++ done) wr hx2 hB (by simp; omega) (by have := hbx.size; omega))
              clear hB hx hdq
              go_wp2_with (go_at_call 68; refine (unhide cP).mono ?_; rintro e w2 ⟨rfl, hB2, hbl2⟩)
              go_roundw
              case rel =>
                refine ⟨q, done ++ [UInt8.ofNat (48 + x)], by omega, by go_num, ?_, ?_, ?_, hbx.trans hbl2⟩
                · rw [List.length_append, List.length_singleton]
                  have := HQ.out
                  omega
                · show _ = _
                  rw [← HL.out, lowB, ← HX.out, List.append_assoc]
                  rfl
                · rw [← List.append_assoc]
                  exact hB2
              case measure => simp [intOf]
            · have hr1 : r = 0 := by omega
              subst hr1
              go_wp2
              go_roundw
              case rel =>
                refine ⟨k + 1, by omega, by go_num, ?_, hbx⟩
                have e1 : zs.take (k + 1) = zs.take k ++ [(n : Int)] := by rw [List.take_add_one, HZ.out]; rfl
                have e2 := HL.out
                rw [lowB, List.append_nil] at e2
                rw [e1, gammaL_snoc, Int.toNat_natCast, gammaOne, ← HD.out, ← HA2.out, ← e2, ← List.append_assoc]
                exact hB
              case measure => simp [intOf]; omega
    · go_wp2
      go_end0
      rw [List.take_of_length_le (by omega)] at hB
      exact ⟨rfl, hB, hbx⟩
end Go.Proofs.YtkiindkoiomieaaGreatDoor
end

section
/-
  P6: the walk of Gamma.
-/
namespace Go.Proofs.YtkiindkoiomieaaGreatDoor
open Go.RowKit

/-- May the number be written? -/
def goodB (z : Int) : Bool := decide (1 ≤ z) && decide (z ≤ 1073741824)
/-- Which error. -/
def gE (zs : List Int) : Int := if 100 < zs.length then 1 else if zs.all goodB then 0 else 2
/-- Which text. -/
def gS (zs : List Int) : List UInt8 := if 100 < zs.length then [] else if zs.all goodB then gammaL zs else []

theorem good_iff (z : Int) : goodB z = true ↔ 1 ≤ z ∧ z ≤ 1073741824 := by simp [goodB]

theorem ret_gamma {zs : List Int} {l : List UInt8} {c : Int} (h1 : gS zs = l) (h2 : gE zs = c) : Ending.returned (.tuple #[.string ⟨l.toArray⟩, .int .i64 c]) = .returned (.tuple #[.string ⟨(gS zs).toArray⟩, .int .i64 (gE zs)]) := by rw [h1, h2]

theorem gamma_bad {zs : List Int} {z : Int} {k : Nat} (hl : zs.length ≤ 100) (hk : zs[k]? = some z) (hb : ¬ (1 ≤ z ∧ z ≤ 1073741824)) : gS zs = [] ∧ gE zs = 2 := by
  have h : zs.all goodB = false := by
    rw [List.all_eq_false]
    exact ⟨z, List.mem_of_getElem? hk, by rw [good_iff]; exact hb⟩
  refine ⟨?_, ?_⟩
  · unfold gS
    rw [if_neg (by omega), h]
    rfl
  · unfold gE
    rw [if_neg (by omega), h]
    rfl

theorem gamma_good {zs : List Int} (hl : zs.length ≤ 100) (h : ∀ z ∈ zs, goodB z = true) : gS zs = gammaL zs ∧ gE zs = 0 ∧ ∀ z ∈ zs, 1 ≤ z ∧ z ≤ 1073741824 := by
  have h1 : zs.all goodB = true := List.all_eq_true.2 h
  refine ⟨?_, ?_, fun z hz => (good_iff z).1 (h z hz)⟩
  · unfold gS
    rw [if_neg (by omega), h1]
    rfl
  · unfold gE
    rw [if_neg (by omega), h1]
    rfl

theorem good_next {zs : List Int} {z : Int} {k : Nat} (h : ∀ y ∈ zs.take k, goodB y = true) (hk : zs[k]? = some z) (hz : 1 ≤ z ∧ z ≤ 1073741824) : ∀ y ∈ zs.take (k + 1), goodB y = true := by
  rw [List.take_add_one, hk]
  intro y hy
  rcases List.mem_append.1 hy with h1 | h1
  · exact h y h1
  · simp at h1
    subst h1
    exact (good_iff _).2 hz

set_option maxHeartbeats 400000 in
set_option maxRecDepth 100000 in
theorem writer_any (w : World) :
    Calls Tryz.prog 37 #[] w fun e w' => e = .returned (.tuple #[.func (.func 68) #[] #[.pointer (some ⟨w.heap.size, 0, none⟩)], .func (.func 64) #[.pointer (some ⟨w.heap.size, 0, none⟩)] #[]]) ∧ w' = w.alloc (.cells #[.pointer none, .slice none 0 0] 83) := by
  go_enter Tryz.func37, Tryz.ntmps37
  go_wp2
  go_ret2
  exact ⟨rfl, rfl⟩

set_option maxHeartbeats 1000000 in
set_option maxRecDepth 100000 in
theorem gamma_any (ao : Option Addr) (len cap : Nat) (zs : List Int) (lb lo : Nat) (w : World) (hz : zs.length = len) (hm : len ≤ 9223372036854775807)
    (hao : 0 < len → ao = some ⟨lb, lo, none⟩ ∧ lb < w.heap.size) (hc : ∀ j z, zs[j]? = some z → w.cell? ⟨lb, lo + j, none⟩ = some (.int .i64 z)) :
    Calls Tryz.prog 19 #[.slice ao len cap] w fun e w' => e = .returned (.tuple #[.string ⟨(gS zs).toArray⟩, .int .i64 (gE zs)]) ∧ Below w.heap.size w w' := by
  by_cases h100 : len ≤ 100
  · have HC := hide hc
    have HA := hide hao
    have HZ := hide hz
    clear hc hao hz
    go_enter Tryz.func19, Tryz.ntmps19
    go_wp2
    go_loop [13] (fun i => ∃ k : Nat, k ≤ len ∧ i = .int .i64 k ∧ Hid (∀ z ∈ zs.take k, goodB z = true)) (fun i => len - (intOf i).toNat)
    case atStart => exact ⟨0, Nat.zero_le _, rfl, by intro z hz; simp at hz⟩
    case round =>
      obtain ⟨k, hk, rfl, HG⟩ := hrel
      by_cases hlt : k < len
      · obtain ⟨z, hzk⟩ : ∃ z, zs[k]? = some z := ⟨_, List.getElem?_eq_getElem (by rw [HZ.out]; exact hlt)⟩
        obtain ⟨rfl, hlb⟩ := HA.out (by omega)
        have hcell := HC.out k z hzk
        have HK := hide hzk
        clear hzk
        by_cases hz1 : z < 1
        · have hall : Hid (gS zs = [] ∧ gE zs = 2) := gamma_bad (by rw [HZ.out]; exact h100) HK.out (by omega)
          go_wp2
          go_ret2
          exact ⟨ret_gamma hall.out.1 hall.out.2, Below.refl _ _⟩
        · by_cases hz2 : 1073741824 < z
          · have hall : Hid (gS zs = [] ∧ gE zs = 2) := gamma_bad (by rw [HZ.out]; exact h100) HK.out (by omega)
            go_wp2
            go_ret2
            exact ⟨ret_gamma hall.out.1 hall.out.2, Below.refl _ _⟩
          · go_wp2
            go_round
            case rel => exact ⟨k + 1, by omega, by go_num, good_next HG.out HK.out (by omega)⟩
            case measure => simp [intOf]; omega
      · have hall : Hid (gS zs = gammaL zs ∧ gE zs = 0 ∧ ∀ z ∈ zs, 1 ≤ z ∧ z ≤ 1073741824) := by
          have h1 := HG.out
          rw [List.take_of_length_le (by rw [HZ.out]; omega)] at h1
          exact gamma_good (by rw [HZ.out]; exact h100) h1
        have cP := hide (putNumbers_any w.heap.size w.heap.size ao len cap zs lb lo (w.alloc (.cells #[.pointer none, .slice none 0 0] 83)) HZ.out hall.out.2.2 h100 HA.out (fun j z hj => (((Below.refl _ w).alloc (Nat.le_refl _) _).cell (p := ⟨lb, lo + j, none⟩) (block_lt_of_cell (HC.out j z hj))).trans (HC.out j z hj)) (Lib.fresh_isBuilder 83 5 w) (by simp))
        go_wp2_with (first
          | (go_at_call 37; refine (writer_any _).mono ?_; rintro e w' ⟨rfl, rfl⟩)
          | (go_at_call 38; refine (unhide cP).mono ?_; rintro e w2 ⟨rfl, hB2, hbl2⟩)
          | (go_at_call 64; refine (Tryz.Builder_String_any _ _ _ _ hB2 (by have := hbl2.size; simp at this; omega)).mono ?_; rintro e w3 ⟨rfl, hb3⟩))
        go_ret2
        exact ⟨ret_gamma hall.out.1 hall.out.2.1, ((Below.refl _ w).alloc (Nat.le_refl _) _).trans (hbl2.trans hb3)⟩
  · have h2 : gE zs = 1 := by unfold gE; rw [if_pos (by omega)]
    have h1 : gS zs = [] := by unfold gS; rw [if_pos (by omega)]
    have H := hide (And.intro h1 h2)
    clear h1 h2 hc hao hz
    go_enter Tryz.func19, Tryz.ntmps19
    go_wp2
    go_ret2
    exact ⟨ret_gamma H.out.1 H.out.2, Below.refl _ _⟩
end Go.Proofs.YtkiindkoiomieaaGreatDoor
end

section
/-
  P6: the walks of the document's bits and Gamma, of copied and sameInts.
-/
namespace Go.Proofs.YtkiindkoiomieaaGreatDoor
open Go.RowKit

theorem cat_list (a b : ByteArray) : (a ++ b).data.toList = a.data.toList ++ b.data.toList := by
  rw [ByteArray.data_append, Array.toList_append]

theorem ret_bytes {a : ByteArray} {l : List UInt8} (h : a.data.toList = l) : Ending.returned (.string a) = .returned (.string ⟨l.toArray⟩) := by
  rw [← h]

theorem low_next (j n : Nat) : lowB (j + 1) n = UInt8.ofNat (48 + n / 2 ^ j % 2) :: lowB j n := rfl

theorem div_step (n j : Nat) : n / 2 ^ j / 2 = n / 2 ^ (j + 1) := by rw [Nat.div_div_eq_div_mul, Nat.pow_succ]

set_option maxHeartbeats 1000000 in
set_option maxRecDepth 100000 in
theorem bits_any (n : Nat) (w : World) (h1 : 1 ≤ n) (h2 : n ≤ 1073741824) :
    Calls Tryz.prog 75 #[.int .i64 n] w fun e w' => e = .returned (.string ⟨(gammaOne n).toArray⟩) ∧ w' = w := by
  obtain ⟨hd1, hd2, hd3, hd4⟩ := dig_bounds h1 h2
  obtain ⟨d, hd⟩ : ∃ d, d = dig n := ⟨_, rfl⟩
  rw [← hd] at hd1 hd2 hd3 hd4
  have HD := hide hd
  have H34 := hide (And.intro hd3 hd4)
  clear hd hd3 hd4
  go_enter Tryz.func75, Tryz.ntmps75
  go_wp2
  go_loop [3, 4] (fun sv mv => ∃ (j m : Nat) (sb : ByteArray), j ≤ d ∧ mv = .int .i64 m ∧ sv = .string sb ∧ sb.size = j ∧ m ≤ 1073741824 ∧ Hid (m = n / 2 ^ j) ∧ Hid (sb.data.toList = lowB j n)) (fun _ mv => (intOf mv).toNat)
  case atStart => exact ⟨0, n, ⟨#[]⟩, Nat.zero_le _, rfl, rfl, rfl, h2, by show _ = _; simp, rfl⟩
  case round =>
    obtain ⟨j, m, sb, hj, rfl, rfl, hsj, hm, HM, HS⟩ := hrel
    by_cases hm0 : 0 < m
    · have hjd : j < d := by
        by_cases h : j < d
        · exact h
        · have : j = d := by omega
          subst this
          rw [HM.out, Nat.div_eq_of_lt H34.out.2] at hm0
          omega
      have hst : m / 2 = n / 2 ^ (j + 1) := by rw [HM.out, div_step]
      have HST := hide hst
      clear hst
      by_cases hodd : m % 2 = 1
      · have hb : ((m : Int) % 2 == 1) = true := by rw [beq_iff_eq]; omega
        have hr : (m : Int).tmod 2 = 1 := by rw [Int.tmod_eq_emod_of_nonneg (by omega)]; omega
        go_wp2
        go_round
        case rel =>
          refine ⟨j + 1, m / 2, ⟨#[49]⟩ ++ sb, by omega, by go_num, rfl, ?_, by omega, HST, ?_⟩
          · rw [ByteArray.size_append]
            show 1 + sb.size = j + 1
            omega
          · show _ = _
            rw [cat_list, low_next, ← HM.out, hodd, HS.out]
            rfl
        case measure => simp [intOf]; omega
      · have hb : ((m : Int) % 2 == 1) = false := by rw [beq_eq_false_iff_ne]; omega
        have hr : (m : Int).tmod 2 = 0 := by rw [Int.tmod_eq_emod_of_nonneg (by omega)]; omega
        go_wp2
        go_round
        case rel =>
          refine ⟨j + 1, m / 2, ⟨#[48]⟩ ++ sb, by omega, by go_num, rfl, ?_, by omega, HST, ?_⟩
          · rw [ByteArray.size_append]
            show 1 + sb.size = j + 1
            omega
          · show _ = _
            rw [cat_list, low_next, ← HM.out, show m % 2 = 0 by omega, HS.out]
            rfl
        case measure => simp [intOf]; omega
    · have hjd : j = d := by
        by_cases h : j < d
        · have h3 : 2 ^ j ≤ n := Nat.le_trans (Nat.pow_le_pow_right (by omega) (by omega)) H34.out.1
          have h4 : 0 < n / 2 ^ j := Nat.div_pos h3 (Nat.two_pow_pos j)
          have := HM.out
          omega
        · omega
      subst hjd
      go_wp2
      go_loop [5, 6] (fun zv iv => ∃ (q : Nat) (zb : ByteArray), 1 ≤ q ∧ q ≤ j ∧ iv = .int .i64 q ∧ zv = .string zb ∧ zb.size = q - 1 ∧ Hid (zb.data.toList = List.replicate (q - 1) 48)) (fun _ iv => j - (intOf iv).toNat)
      case atStart => exact ⟨1, ⟨#[]⟩, by omega, by omega, rfl, rfl, rfl, rfl⟩
      case round =>
        obtain ⟨q, zb, hq1, hq2, rfl, rfl, hzs, HZ⟩ := hrel
        by_cases hqd : q < j
        · go_wp2
          go_round
          case rel =>
            refine ⟨q + 1, zb ++ ⟨#[48]⟩, by omega, by omega, by go_num, rfl, ?_, ?_⟩
            · rw [ByteArray.size_append]
              show zb.size + 1 = q + 1 - 1
              omega
            · show _ = _
              rw [cat_list, HZ.out, show q + 1 - 1 = q - 1 + 1 by omega, List.replicate_succ']
          case measure => simp [intOf]; omega
        · have hqe : q = j := by omega
          subst hqe
          go_wp2
          go_ret
          refine ⟨ret_bytes ?_, rfl⟩
          rw [cat_list, HZ.out, HS.out, gammaOne, ← HD.out]

theorem ret_gamma_bytes {zs : List Int} {a : ByteArray} {c : Int} (h1 : gS zs = a.data.toList) (h2 : gE zs = c) : Ending.returned (.tuple #[.string a, .int .i64 c]) = .returned (.tuple #[.string ⟨(gS zs).toArray⟩, .int .i64 (gE zs)]) := by rw [h1, h2]

set_option maxHeartbeats 1000000 in
set_option maxRecDepth 100000 in
theorem refGamma_any (ao : Option Addr) (len cap : Nat) (zs : List Int) (lb lo : Nat) (w : World) (hz : zs.length = len) (hm : len ≤ 9223372036854775807)
    (hao : 0 < len → ao = some ⟨lb, lo, none⟩ ∧ lb < w.heap.size) (hc : ∀ j z, zs[j]? = some z → w.cell? ⟨lb, lo + j, none⟩ = some (.int .i64 z)) :
    Calls Tryz.prog 53 #[.slice ao len cap] w fun e w' => e = .returned (.tuple #[.string ⟨(gS zs).toArray⟩, .int .i64 (gE zs)]) ∧ w' = w := by
  by_cases h100 : len ≤ 100
  · have HC := hide hc
    have HA := hide hao
    have HZ := hide hz
    clear hc hao hz
    go_enter Tryz.func53, Tryz.ntmps53
    go_wp2
    go_loop [4, 5] (fun sv i => ∃ (k : Nat) (sb : ByteArray), k ≤ len ∧ i = .int .i64 k ∧ sv = .string sb ∧ sb.size ≤ 6100 ∧ Hid (∀ z ∈ zs.take k, goodB z = true) ∧ Hid (sb.data.toList = gammaL (zs.take k))) (fun _ i => len - (intOf i).toNat)
    case atStart => exact ⟨0, ⟨#[]⟩, Nat.zero_le _, rfl, rfl, Nat.zero_le _, by intro z hz; simp at hz, rfl⟩
    case round =>
      obtain ⟨k, sb, hk, rfl, rfl, hsb, HG, HS⟩ := hrel
      by_cases hlt : k < len
      · obtain ⟨z, hzk⟩ : ∃ z, zs[k]? = some z := ⟨_, List.getElem?_eq_getElem (by rw [HZ.out]; exact hlt)⟩
        obtain ⟨rfl, hlb⟩ := HA.out (by omega)
        have hcell := HC.out k z hzk
        have HK := hide hzk
        clear hzk
        by_cases hz1 : z < 1
        · have hall : Hid (gS zs = [] ∧ gE zs = 2) := gamma_bad (by rw [HZ.out]; exact h100) HK.out (by omega)
          go_wp2
          go_ret2
          exact ⟨ret_gamma hall.out.1 hall.out.2, rfl⟩
        · by_cases hz2 : 1073741824 < z
          · have hall : Hid (gS zs = [] ∧ gE zs = 2) := gamma_bad (by rw [HZ.out]; exact h100) HK.out (by omega)
            go_wp2
            go_ret2
            exact ⟨ret_gamma hall.out.1 hall.out.2, rfl⟩
          · obtain ⟨n, hn⟩ : ∃ n : Nat, z = (n : Int) := ⟨z.toNat, by omega⟩
            subst hn
            obtain ⟨xb, hxb⟩ : ∃ xb : ByteArray, xb = ⟨(gammaOne n).toArray⟩ := ⟨_, rfl⟩
            have cB := bits_any n w (by omega) (by omega)
            rw [← hxb] at cB
            have CB := hide cB
            have hxl : xb.data.toList = gammaOne n := by rw [hxb]
            have hxs : xb.size ≤ 61 := by
              rw [Lib.size_eq, hxl]
              exact gammaOne_length (by omega) (by omega)
            have hnext := good_next HG.out HK.out (by omega)
            have hsum : gammaL (zs.take (k + 1)) = gammaL (zs.take k) ++ gammaOne n := by
              rw [List.take_add_one, HK.out]
              exact gammaL_snoc _ _
            have hlen : (sb ++ xb).size ≤ 6100 := by
              rw [Lib.size_eq, cat_list, HS.out, hxl, ← hsum]
              have h1 := gammaL_length (zs.take (k + 1)) fun y hy => (good_iff y).1 (hnext y hy)
              have h2 : (zs.take (k + 1)).length ≤ 100 := by simp; omega
              omega
            have HX := hide (And.intro hxl (And.intro hnext (And.intro hsum hlen)))
            clear cB hxl hnext hsum hlen hxb
            go_wp2_with (go_at_call 75; refine (unhide CB).mono ?_; rintro e w' ⟨rfl, rfl⟩)
            go_round
            case rel => exact ⟨k + 1, sb ++ xb, by omega, by go_num, rfl, HX.out.2.2.2, HX.out.2.1, by show _ = _; rw [cat_list, HS.out, HX.out.1, HX.out.2.2.1]⟩
            case measure => simp [intOf]; omega
      · have hall : Hid (gS zs = gammaL zs ∧ gE zs = 0 ∧ ∀ z ∈ zs, 1 ≤ z ∧ z ≤ 1073741824) := by
          have h1 := HG.out
          rw [List.take_of_length_le (by rw [HZ.out]; omega)] at h1
          exact gamma_good (by rw [HZ.out]; exact h100) h1
        go_wp2
        go_ret2
        refine ⟨ret_gamma_bytes ?_ hall.out.2.1, rfl⟩
        rw [hall.out.1, HS.out, List.take_of_length_le (by rw [HZ.out]; omega)]
  · have h2 : gE zs = 1 := by unfold gE; rw [if_pos (by omega)]
    have h1 : gS zs = [] := by unfold gS; rw [if_pos (by omega)]
    have H := hide (And.intro h1 h2)
    clear h1 h2 hc hao hz
    go_enter Tryz.func53, Tryz.ntmps53
    go_wp2
    go_ret2
    exact ⟨ret_gamma H.out.1 H.out.2, rfl⟩


set_option maxHeartbeats 1000000 in
set_option maxRecDepth 100000 in
theorem copied_any (ao : Option Addr) (len cap : Nat) (zs : List Int) (lb lo : Nat) (w : World) (hz : zs.length = len) (hm : len * 8 ≤ 140737488351232)
    (hao : 0 < len → ao = some ⟨lb, lo, none⟩ ∧ lb < w.heap.size) (hc : ∀ j z, zs[j]? = some z → w.cell? ⟨lb, lo + j, none⟩ = some (.int .i64 z)) :
    Calls Tryz.prog 52 #[.slice ao len cap] w fun e w' => ∃ v, e = .returned v ∧ w'.ownsRow w.heap.size 3 1 v len (zs.map (Value.int .i64)) ∧ Below w.heap.size w w' := by
  obtain ⟨i0, hi, hz0, hz1, hz2⟩ := info_parts Tryz.info3
  have HC := hide hc
  have HA := hide hao
  have HZ := hide hz
  clear hc hao hz
  go_enter Tryz.func52, Tryz.ntmps52
  go_wp2
  go_loopw [3, 4] (fun v i wr => ∃ k : Nat, k ≤ len ∧ i = .int .i64 k ∧ wr.ownsRow w.heap.size 3 1 v k ((zs.take k).map (Value.int .i64)) ∧ Below w.heap.size w wr) (fun _ i _ => len - (intOf i).toNat)
  case atStart => exact ⟨0, Nat.zero_le _, rfl, World.ownsRow_nil _ _ _ _, Below.refl _ _⟩
  case round =>
    obtain ⟨k, hk, rfl, hrow, hbx⟩ := hrel
    by_cases hlt : k < len
    · obtain ⟨z, hzk⟩ : ∃ z, zs[k]? = some z := ⟨_, List.getElem?_eq_getElem (by rw [HZ.out]; exact hlt)⟩
      obtain ⟨rfl, hlb⟩ := HA.out (by omega)
      have hcell : wr.cell? ⟨lb, lo + k, none⟩ = some (.int .i64 z) := (hbx.cell (p := ⟨lb, lo + k, none⟩) hlb).trans (HC.out k z hzk)
      have HK := hide hzk
      clear hzk
      go_wp2_with (at_builtin; refine wpList_append_own _ rfl _ _ 23 rfl w.heap.size 3 i0 (.int .i64 0) 1 8 Tryz.underlying23 hi hz0 hz1 hz2 rfl (by decide) _ _ _ rfl (hrow.alloc _) ⟨wr.heap.size, 0, none⟩ 1 1 [.int .i64 z] rfl rfl (cell_one_new _ _ _) (fun x hx => by simp at hx; subst hx; rfl) (by unfold maxLen; omega) (by omega) (by have := hbx.size; simp; omega) ?_; intro v' w3 hown' hgrow3 hnil3)
      go_roundw
      case rel =>
        refine ⟨k + 1, by omega, by go_num, ?_, (hbx.alloc hbx.size _).grown hgrow3 (by have := hbx.size; simp; omega) (fun j hj => (hrow.lt j hj).1)⟩
        have e1 : zs.take (k + 1) = zs.take k ++ [z] := by rw [List.take_add_one, HK.out]; rfl
        rw [e1, List.map_append]
        exact hown'
      case measure => simp [intOf]; omega
    · have hke : k = len := by omega
      subst hke
      go_wp2
      go_ret
      rw [List.take_of_length_le (by rw [HZ.out]; exact Nat.le_refl _)] at hrow
      exact ⟨_, rfl, hrow, hbx⟩

set_option maxHeartbeats 1000000 in
set_option maxRecDepth 100000 in
theorem same_any (ao bo : Option Addr) (len c1 c2 : Nat) (zs : List Int) (lb lo mb mo : Nat) (w : World) (hz : zs.length = len) (hm : len ≤ 9223372036854775807)
    (hao : 0 < len → ao = some ⟨lb, lo, none⟩ ∧ bo = some ⟨mb, mo, none⟩) (hc : ∀ j z, zs[j]? = some z → w.cell? ⟨lb, lo + j, none⟩ = some (.int .i64 z) ∧ w.cell? ⟨mb, mo + j, none⟩ = some (.int .i64 z)) :
    Calls Tryz.prog 21 #[.slice ao len c1, .slice bo len c2] w fun e w' => e = .returned (.bool true) ∧ ∃ n, w' = w.drewN n := by
  have HC := hide hc
  have HA := hide hao
  have HZ := hide hz
  have hne : ((len : Int) != (len : Int)) = false := by simp
  clear hc hao hz
  go_enter Tryz.func21, Tryz.ntmps21
  go_wp2
  go_loopw [5] (fun i wr => ∃ k n : Nat, k ≤ len ∧ i = .int .i64 k ∧ wr = w.drewN n) (fun i _ => len - (intOf i).toNat)
  case atStart => exact ⟨0, 0, Nat.zero_le _, rfl, rfl⟩
  case round =>
    obtain ⟨k, n, hk, rfl, rfl⟩ := hrel
    by_cases hlt : k < len
    · obtain ⟨z, hzk⟩ : ∃ z, zs[k]? = some z := ⟨_, List.getElem?_eq_getElem (by rw [HZ.out]; exact hlt)⟩
      obtain ⟨rfl, rfl⟩ := HA.out (by omega)
      obtain ⟨hc1, hc2⟩ := HC.out k z hzk
      have hzz : (z != z) = false := by simp
      clear hzk
      go_wp2_with fail
      go_quiet (fail)
      go_wp2
      go_roundw
      case rel => exact ⟨k + 1, _, by omega, by go_num, rfl⟩
      case measure => simp [intOf]; omega
    · go_wp2
      go_ret
      exact ⟨rfl, _, rfl⟩
end Go.Proofs.YtkiindkoiomieaaGreatDoor
end

