/-
  P4: the walk of turned.
-/
import Derived.Test.YtkiindkoiomieaaRankWalk
namespace Go.Proofs.Ytkiindkoiomieaa
open Go.RowKit Go.Lib Go.Sort

/-- The byte of a row. -/
def by2 (x : Int × Int) : UInt8 := UInt8.ofNat x.2.toNat

theorem by2_mk (a : Int) (t : List UInt8) (x : Nat) : by2 (a, (Duv.bt t x : Int)) = t[x]?.getD 0 := by
  unfold by2 Duv.bt
  simp

/-- Sorted rows tell the text, turned. -/
theorem turned_of_rows {ws : List (List UInt8)} {N n : Nat} {rk : Nat → Nat} (hn : ws.flatten.length = n) (hN : n ≤ N) (hr : Tur.RankN ws N rk) {f : Nat → Int × Int} (hf : f = fun j => (((rk (Tur.nx ws j) : Nat) : Int), ((Duv.bt ws.flatten j : Nat) : Int))) {d' : Array (Int × Int)}
    (hp : d'.toList.Perm (fillP f n n).toList) (hs : ∀ i j, i < j → j < n → ltP d'[j]! d'[i]! = false) : Tur.Turned ws (d'.toList.map by2) := by
  have e1 : (fillP f n n).toList = (List.range n).map f := by
    simp only [fillP]
    exact List.map_congr_left fun j hj => by rw [if_pos (List.mem_range.1 hj)]
  rw [e1] at hp
  obtain ⟨P, h1, h2⟩ := Tur.perm_lift f hp (List.range n) rfl
  have hlen : d'.size = n := by
    have := hp.length_eq
    simpa using this
  rw [h2, List.map_map]
  have e2 : P.map (by2 ∘ f) = P.map fun x => ws.flatten[x]?.getD 0 := by
    apply List.map_congr_left
    intro x _
    simp only [Function.comp_apply, hf]
    exact by2_mk _ _ _
  rw [e2]
  rw [← hn] at h1
  refine Tur.turned_rows (by rw [hn]; exact hN) hr h1 ?_
  have hpw : d'.toList.Pairwise fun a b => ltP b a = false := by
    rw [List.pairwise_iff_getElem]
    intro i j hi hj hij
    have hj' : j < d'.size := by simpa using hj
    have hi' : i < d'.size := by omega
    have := hs i j hij (by omega)
    rw [getElem!_pos d' j hj', getElem!_pos d' i hi'] at this
    simpa using this
  rw [h2, List.pairwise_map] at hpw
  refine hpw.imp fun {x y} h => ?_
  rw [hf, ltP_false] at h
  simp only at h
  omega

set_option maxHeartbeats 2000000 in
set_option maxRecDepth 100000 in
theorem turned_any (s : ByteArray) (w : World) (hs : s.size ≤ 300) (h0 : 0 < s.size) :
    Calls Try.prog 34 #[.string s] w fun e w' => ∃ (t : List UInt8) (ws : List (List UInt8)), e = .returned (strV t) ∧ Duv.Good ws ∧ ws.flatten = s.data.toList ∧ Tur.Turned ws t ∧ Below w.heap.size w w' := by
  obtain ⟨cs, hmk, hsize, hlie⟩ := make_pairs s.size (by omega)
  have HLI := hide hlie
  clear hlie hsize
  go_enter Try.func34, Try.ntmps34
  go_wp2_with fail
  go_at_call 49
  refine (next_places s w hs).mono ?_
  rintro e w1 ⟨v, ws, rfl, hg, hf, hown, hb1⟩
  obtain ⟨gn, cn, rfl, hgn, hcn⟩ : ∃ gn cn, v = .slice (some ⟨gn, 0, none⟩) s.size cn ∧ gn < w1.heap.size ∧ ∀ x, x < s.size → w1.cell? ⟨gn, x, none⟩ = some (.int .i64 (Tur.nx ws x : Int)) := by
    rcases hown.2 with ⟨_, h2⟩ | ⟨g, cap, cur, rfl, h3, h4, _⟩
    · omega
    · refine ⟨g, cap, rfl, heap_lt0 h4, fun x hx => ?_⟩
      rw [hown.cellAt x (by omega)]
      have hl : x < (Tur.nxt ws 0).length := by rw [Tur.nxt_length, hf, ← Lib.size_eq]; exact hx
      simp [numV, Tur.nx, hl]
  have hsum : ws.flatten.length = s.size := by rw [hf, ← Lib.size_eq]
  have cK := ranking_any s ws gn cn w1 hs hf hgn hcn
  have CK := hide cK
  have HG := hide hg
  have HF := hide hf
  have HS := hide hsum
  have HCN := hide hcn
  clear cK hg hf hsum hcn hown
  go_wp2_with fail
  go_at_call 50
  refine CK.out.mono ?_
  rintro e w2 ⟨gk, N, rk, rfl, hNK, hN, hR, hB, hb2⟩
  obtain ⟨f, hf⟩ : ∃ f : Nat → Int × Int, f = fun j => (((rk (Tur.nx ws j) : Nat) : Int), ((Duv.bt ws.flatten j : Nat) : Int)) := ⟨_, rfl⟩
  have HFF := hide hf
  have HNK := hide hNK
  have HR := hide hR
  have HBB := hide hB
  have hgk := heap_lt0 hNK
  have hgn2 : gn < w2.heap.size := Nat.lt_of_lt_of_le hgn hb2.size
  have hb12 := hb1.trans (hb2.mono hb1.size)
  have hcn2 : Hid (∀ x, x < s.size → w2.cell? ⟨gn, x, none⟩ = some (.int .i64 (Tur.nx ws x : Int))) := fun x hx => (hb2.cell (p := ⟨gn, x, none⟩) hgn).trans (HCN.out x hx)
  clear hf hNK hR hB CK HCN
  go_wp2
  clear hmk
  go_loopw [20] (fun kv wr => ∃ k : Nat, k ≤ s.size ∧ kv = .int .i64 k ∧ Hid (Lies wr w2.heap.size (fillP f s.size k)) ∧ Below w.heap.size w wr ∧ Below w2.heap.size w2 wr) (fun kv _ => s.size - (intOf kv).toNat)
  case atStart => exact ⟨0, by omega, rfl, by rw [← fillP_zero]; exact hide (HLI.out _ _ (heap_alloc_new _ _)), hb12.alloc hb12.size _, (Below.refl _ _).alloc (Nat.le_refl _) _⟩
  case round =>
    obtain ⟨k, hk, rfl, HL, hbx, hbv⟩ := hrel
    by_cases hlt : k < s.size
    · obtain ⟨c1, c2⟩ := HL.out.cell (j := k) (by rw [fillP_size]; exact hlt)
      generalize (fillP f s.size k)[k]! = old at c1 c2
      have f1 := HL.out.frozen (k * 2)
      have f2 := HL.out.frozen (k * 2 + 1)
      have hm0 : Tur.nx ws k < s.size := by
        have := Tur.nx_lt (ws := ws) (x := k) (by rw [HS.out]; exact hlt)
        rwa [HS.out] at this
      have d1 := (hbv.cell (p := ⟨gn, k, none⟩) hgn2).trans (hcn2.out k hlt)
      have d2 := (hbv.cell (p := ⟨gk, Tur.nx ws k, none⟩) hgk).trans (nums_cell HNK.out hm0)
      obtain ⟨m, hm⟩ : ∃ m, m = Tur.nx ws k := ⟨_, rfl⟩
      obtain ⟨a, ha⟩ : ∃ a, a = rk (Tur.nx ws k) := ⟨_, rfl⟩
      rw [← ha, ← hm] at d2
      rw [← hm] at d1 hm0
      have HA := hide ha
      have i1 : (0 : Int) ≤ (k : Int) := by omega
      have i2 : (k : Int) < (s.size : Int) := by omega
      have i3 : (0 : Int) ≤ (m : Int) := by omega
      have i4 : (m : Int) < (s.size : Int) := by omega
      have n1 : gn ≠ w2.heap.size := by omega
      have n2 : gk ≠ w2.heap.size := by omega
      clear hm ha
      go_wp2_with fail
      go_region
      go_wp2
      go_roundw
      case rel =>
        have hL2 := HL.out.set (i := k) (by rw [fillP_size]; exact hlt) (a : Int) (s[k].toNat : Int)
        have e : ((a : Int), (s[k].toNat : Int)) = f k := by rw [HFF.out, HA.out, byte_bt s k hlt, HF.out]
        rw [e, fillP_set] at hL2
        refine ⟨k + 1, by omega, by go_num, ?_, ?_, ?_⟩
        · rw [wrap64_byte]
          exact hide hL2
        · exact below_drewN ((hbx.setCell (p := ⟨w2.heap.size, k * 2, none⟩) hb12.size _).setCell (p := ⟨w2.heap.size, k * 2 + 1, none⟩) hb12.size _) 1
        · exact below_drewN ((hbv.setCell (p := ⟨w2.heap.size, k * 2, none⟩) (Nat.le_refl _) _).setCell (p := ⟨w2.heap.size, k * 2 + 1, none⟩) (Nat.le_refl _) _) 1
      case measure => simp [intOf]; omega
    · have hkd : k = s.size := by omega
      have hL := HL.out
      rw [hkd] at hL
      have hsz := fillP_size f s.size s.size
      have cS := sort_any w2.heap.size s.size (fillP f s.size s.size) wr (by rw [hsz]; omega) hL
      rw [hsz] at cS
      have CS := hide cS
      clear cS hL hsz HL hkd hbv
      rename World => wm
      go_wp2_with fail
      go_at_call 51
      refine CS.out.mono ?_
      rintro e w3 ⟨rfl, d', hds, hp, hso, hL3, hg3⟩
      have hb3 : Below w.heap.size w w3 := hbx.grown hg3 hbx.size (fun j hj => by cases hj; exact hb12.size)
      have hmem : Hid (∀ k, k < s.size → ∃ c : UInt8, d'[k]!.2 = (c.toNat : Int)) := fun k hk => by
        have h1 : d'[k]! ∈ d'.toList := by
          rw [getElem!_pos d' k (by omega)]
          simp
        have h2 := hp.mem_iff.1 h1
        simp only [fillP, List.mem_map, List.mem_range] at h2
        obtain ⟨j, hj, e⟩ := h2
        rw [if_pos hj, HFF.out] at e
        refine ⟨ws.flatten[j]?.getD 0, ?_⟩
        rw [← e]
        rfl
      have HT := hide (turned_of_rows HS.out hN HR.out HFF.out hp hso)
      have HL3 := hide hL3
      have hg2 := hL3.lt
      clear hp hso hL3 CS
      have hdl : d'.toList.length = s.size := by simpa using hds
      go_wp2
      go_loopw [43] (fun kv wr => ∃ (k : Nat) (out : List UInt8), k ≤ s.size ∧ kv = .int .i64 k ∧ out.length = k ∧ Hid (out = (d'.toList.take k).map by2) ∧ Lib.IsBuilder 66 5 w3.heap.size w3.heap.size (Lib.byteCells out) wr ∧ Below w3.heap.size w3 wr) (fun kv _ => s.size - (intOf kv).toNat)
      case atStart => exact ⟨0, [], by omega, rfl, rfl, hide rfl, fresh_one w3, (Below.refl _ _).alloc (Nat.le_refl _) _⟩
      case round =>
        obtain ⟨k, out, hk, rfl, hol, HOut, hB, hbw⟩ := hrel
        by_cases hlt2 : k < s.size
        · obtain ⟨c1, c2⟩ := (HL3.out).cell (j := k) (by omega)
          obtain ⟨c, hc⟩ := hmem.out k hlt2
          have hby : by2 d'[k]! = c := by
            unfold by2
            rw [hc]
            simp
          rw [hc] at c2
          generalize hx : d'[k]!.1 = x1 at c1
          have d1 := (hbw.cell (p := ⟨w2.heap.size, k * 2, none⟩) hg2).trans c1
          have d2 := (hbw.cell (p := ⟨w2.heap.size, k * 2 + 1, none⟩) hg2).trans c2
          have hclt := c.toNat_lt
          have hw8 : IntKind.u8.wrap (c.toNat : Int) = (c.toNat : Int) := by
            simp [IntKind.wrap, IntKind.bits, IntKind.signed]
            omega
          have HBY := hide hby
          have hbsz := hbw.size
          clear hx c1 c2 hc hby
          have hB' : Lib.IsBuilder 66 5 w3.heap.size w3.heap.size (Lib.byteCells out) (wr.alloc (.cells #[.int .i64 x1, .int .i64 (c.toNat : Int)] 78)) := builder_kept hB (World.grownBy_alloc wr _ (some w2.heap.size)) hg2
          have cW := write_any w3.heap.size w3.heap.size (Lib.byteCells out) (c.toNat : Int) _ hB' (by rw [Lib.byteCells_length]; omega) (Nat.le_trans hbsz (World.grownBy_alloc _ _ none).size)
          have CW := hide cW
          clear cW hB'
          go_wp2_with fail
          go_at_call 41
          refine CW.out.mono ?_
          rintro e w4 ⟨rfl, hB4, hb4⟩
          go_wp2
          go_roundw
          case rel =>
            refine ⟨k + 1, out ++ [c], by omega, by go_num, by rw [List.length_append]; simp; omega, ?_, ?_, (hbw.alloc hbsz _).trans hb4⟩
            · apply hide
              have hx : d'.toList[k]? = some d'[k]! := by
                rw [Array.getElem?_toList, Array.getElem?_eq_getElem (by omega), getElem!_pos d' k (by omega)]
              rw [HOut.out, Tur.take_next hx, List.map_append, List.map_cons, List.map_nil, HBY.out]
            · rw [← byteCells_snoc]
              exact .inr hB4
          case measure => simp [intOf]; omega
        · have hkd : k = s.size := by omega
          go_wp2_with (go_at_call 42; refine (Try.Builder_String_any _ _ _ _ hB hbw.size).mono ?_; rintro e w4 ⟨rfl, hb4⟩)
          go_ret
          refine ⟨out, ws, rfl, HG.out, HF.out, ?_, (hb3.trans (hbw.mono hb3.size)).trans (hb4.mono hb3.size)⟩
          have := HOut.out
          rw [hkd, ← hdl, List.take_length] at this
          rw [this]
          exact HT.out
end Go.Proofs.Ytkiindkoiomieaa
