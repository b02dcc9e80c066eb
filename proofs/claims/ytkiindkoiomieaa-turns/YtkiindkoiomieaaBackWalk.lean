/-
  P4: the walk of turnedBack.
-/
import Derived.Test.YtkiindkoiomieaaBackWrite
namespace Go.Proofs.Ytkiindkoiomieaa
open Go.RowKit Go.Lib

/-- Which rows are met. -/
def MetL (n : Nat) (O : List Nat) (ml : List Bool) : Prop := ml.length = n ∧ ∀ r, r < n → ml[r]? = some (decide (r ∈ O))
/-- What stands at the end of the text. -/
def TextL (n e : Nat) (W ty : List UInt8) : Prop := ty.length = n ∧ ty.drop e = W

theorem MetL.start (n : Nat) : MetL n [] (List.replicate n false) := ⟨by simp, fun r hr => by simp [hr]⟩
theorem MetL.next {n r : Nat} {O O' : List Nat} {ml : List Bool} (h : MetL n O ml) (hO : ∀ x, x ∈ O' ↔ x = r ∨ x ∈ O) : MetL n O' (ml.set r true) := by
  refine ⟨by rw [List.length_set]; exact h.1, fun x hx => ?_⟩
  rw [List.getElem?_set]
  by_cases e : r = x
  · subst e
    rw [if_pos rfl, if_pos (by rw [h.1]; exact hx)]
    have : r ∈ O' := (hO r).2 (.inl rfl)
    simp [this]
  · rw [if_neg e, h.2 x hx]
    have : x ∈ O' ↔ x ∈ O := by
      rw [hO]
      exact ⟨fun h => h.resolve_left (fun e' => e e'.symm), .inr⟩
    simp [this]
theorem TextL.start (n : Nat) : TextL n n [] (List.replicate n 0) := ⟨by simp, by simp⟩
theorem TextL.next {n e : Nat} {W ty : List UInt8} (h : TextL n (e + 1) W ty) (he : e < n) (c : UInt8) : TextL n e (c :: W) (ty.set e c) := by
  obtain ⟨h1, h2⟩ := h
  refine ⟨by rw [List.length_set]; exact h1, ?_⟩
  have hl : e < (ty.set e c).length := by rw [List.length_set, h1]; exact he
  rw [List.drop_eq_getElem_cons hl, List.drop_set_of_lt (by omega), h2, List.getElem_set_self]

theorem nums_cell {w : World} {g n : Nat} {p : Nat → Nat} (h : NumsAt w g ((List.range n).map p)) {r : Nat} (hr : r < n) : w.cell? ⟨g, r, none⟩ = some (.int .i64 (p r : Int)) :=
  cell_here h (cellsN_at (by simp [hr]))

set_option maxHeartbeats 2000000 in
set_option maxRecDepth 100000 in
theorem turnedBack_any (s : ByteArray) (w : World) (hs : s.size ≤ 500) :
    Calls Try.prog 35 #[.string s] w fun e w' => ∃ (b : List UInt8) (ws : List (List UInt8)), e = .returned (strV b) ∧ Duv.Good ws ∧ ws.flatten = b ∧ Tur.Turned ws s.data.toList ∧ Below w.heap.size w w' := by
  have hmy := make_bytes s.size hs
  have hmt := make_truths s.size hs
  have cR := rows_any s w hs
  obtain ⟨t, ht⟩ : ∃ t, t = s.data.toList := ⟨_, rfl⟩
  have hts : t.length = s.size := by rw [ht, ← Lib.size_eq]
  rw [← ht] at cR ⊢
  have CR := hide cR
  have HTT := hide ht
  have HTS := hide hts
  clear cR ht hts
  go_enter Try.func35, Try.ntmps35
  go_wp2_with (go_at_call 53; refine CR.out.mono ?_; rintro e w1 ⟨ga, p, rfl, hN, hga, hb1, hA⟩)
  have HN := hide hN
  have HA := hide hA
  have hga1 := heap_lt0 hN
  clear hN hA CR
  go_wp2
  clear hmy hmt
  go_loopw [6, 22] (fun ev kv wr => ∃ (f e : Nat) (cs : List (Nat × Nat)) (ml : List Bool) (ty : List UInt8), f ≤ s.size ∧ kv = .int .i64 f ∧ ev = .int .i64 e ∧ Hid (e + (Tur.allRows p cs).length = s.size) ∧ Hid (wr.heap[w1.heap.size]? = some (.cells (cellsY ty) 5 (0, 0))) ∧ Hid (wr.heap[w1.heap.size + 1]? = some (.cells (cellsT ml) 4 (0, 0))) ∧ Hid (Tur.Met t p cs f) ∧ Hid (MetL s.size (Tur.allRows p cs) ml) ∧ Hid (TextL s.size e (cs.map (Tur.word t p)).flatten ty) ∧ Below w.heap.size w wr ∧ Below w1.heap.size w1 wr) (fun _ kv _ => s.size - (intOf kv).toNat)
  case atStart =>
    refine ⟨0, s.size, [], _, _, by omega, rfl, rfl, hide rfl, ?_, ?_, hide (Tur.Met.start _ _), hide (MetL.start _), hide (TextL.start _), (hb1.alloc hb1.size _).alloc (by have := hb1.size; simp; omega) _, ((Below.refl _ _).alloc (Nat.le_refl _) _).alloc (by simp) _⟩
    · apply hide
      rw [Lib.alloc_old _ _ _ (by simp)]
      exact heap_alloc_new _ _
    · apply hide
      have := heap_alloc_new (w1.alloc (.cells (cellsY (List.replicate s.size 0)) 5)) (.cells (cellsT (List.replicate s.size false)) 4)
      simpa using this
  case round =>
    obtain ⟨f, e, cs, ml, ty, hf, rfl, rfl, HE, HY, HT, HM, HML, HTX, hbx, hbv⟩ := hrel
    by_cases hlt : f < s.size
    · have hft : f < t.length := by rw [HTS.out]; exact hlt
      have HS0 := hide (Tur.Steps.start HM.out hft)
      go_wp2
      go_loopw [6, 8] (fun ev rv wr => ∃ (j e : Nat) (ml : List Bool) (ty : List UInt8), ev = .int .i64 e ∧ rv = .int .i64 (Tur.it p j f : Nat) ∧ Hid (e + (j + (Tur.allRows p cs).length) = s.size) ∧ e ≤ s.size ∧ Hid (wr.heap[w1.heap.size]? = some (.cells (cellsY ty) 5 (0, 0))) ∧ Hid (wr.heap[w1.heap.size + 1]? = some (.cells (cellsT ml) 4 (0, 0))) ∧ Hid (Tur.Steps t p cs f j) ∧ Hid (MetL s.size (Tur.rows p (f, j) ++ Tur.allRows p cs) ml) ∧ Hid (TextL s.size e (Tur.word t p (f, j) ++ (cs.map (Tur.word t p)).flatten) ty) ∧ Below w.heap.size w wr ∧ Below w1.heap.size w1 wr) (fun ev _ _ => (intOf ev).toNat)
      case atStart => exact ⟨0, e, ml, ty, rfl, rfl, hide (by have := HE.out; omega), by have := HE.out; omega, HY, HT, HS0, HML, HTX, hbx, hbv⟩
      case round =>
        clear hbx hbv HY HT HML HTX HE HS0
        obtain ⟨j, e, ml, ty, rfl, rfl, HE, hes, HY, HT, HS, HML, HTX, hbx, hbv⟩ := hrel
        have hrn : Tur.it p j f < s.size := by rw [← HTS.out]; exact HA.out.it_lt hft j
        obtain ⟨r, hr⟩ : ∃ r, r = Tur.it p j f := ⟨_, rfl⟩
        rw [← hr] at hrn ⊢
        have hmr := HML.out.2 r hrn
        have cm := cell_here HT.out (cellsT_at hmr)
        have fm := frozen_of_row _ (w1.heap.size + 1) r _ _ HT.out
        have cp := (hbv.cell (p := ⟨ga, r, none⟩) hga1).trans (nums_cell HN.out hrn)
        by_cases hin : r ∈ Tur.rows p (f, j) ++ Tur.allRows p cs
        · rw [decide_eq_true hin] at cm
          have HR := hide hr
          clear hr hmr
          go_wp2
          go_roundw
          case rel =>
            by_cases hj : j = 0
            · subst hj
              have hfO : f ∈ Tur.allRows p cs := by
                have := hin
                rw [HR.out] at this
                simpa [Tur.rows, Tur.it] using this
              exact ⟨f + 1, e, cs, ml, ty, by omega, by go_num, rfl, hide (by have := HE.out; omega), HY, HT, hide (HM.out.again hfO), HML, HTX, hbx, hbv⟩
            · have hcl := HS.out.close HA.out HM.out (by omega) (by rw [← HR.out]; exact hin)
              refine ⟨f + 1, e, (f, j) :: cs, ml, ty, by omega, by go_num, rfl, ?_, HY, HT, hide (HM.out.more HS.out (by omega) hcl), ?_, ?_, hbx, hbv⟩
              · apply hide
                rw [Tur.allRows_cons, List.length_append, Tur.rows_length]
                exact HE.out
              · rw [Tur.allRows_cons]
                exact HML
              · rw [List.map_cons, List.flatten_cons]
                exact HTX
          case measure => simp [intOf]; omega
        · rw [decide_eq_false hin] at cm
          have hst := HS.out.next (by rw [← hr]; exact hin)
          have hfw := hst.few HA.out HM.out
          rw [HTS.out] at hfw
          have hE := HE.out
          obtain ⟨e', rfl⟩ : ∃ e', e = e' + 1 := ⟨e - 1, by omega⟩
          have HST := hide hst
          have hyl : e' < ty.length := by rw [HTX.out.1]; omega
          obtain ⟨y0, hy0⟩ : ∃ y0, ty[e']? = some y0 := ⟨_, List.getElem?_eq_getElem hyl⟩
          have cy := cell_here HY.out (cellsY_at hy0)
          have fy := frozen_of_row _ w1.heap.size e' _ _ HY.out
          have HR := hide hr
          have HIN := hide hin
          have n1 : ga ≠ w1.heap.size := by omega
          have n2 : ga ≠ w1.heap.size + 1 := by omega
          clear hst hfw hE hr hin hmr hy0 hyl
          go_wp2
          go_roundw
          case rel =>
            refine ⟨j + 1, e', ml.set r true, ty.set e' s[r], rfl, ?_, ?_, by omega, ?_, ?_, HST, ?_, ?_, ?_, ?_⟩
            · rw [HR.out]
              rfl
            · exact hide (by have := HE.out; omega)
            · apply hide
              have h1 : (wr.setCell ⟨w1.heap.size + 1, r, none⟩ (.bool true)).heap[w1.heap.size]? = some (.cells (cellsY ty) 5 (0, 0)) := by
                rw [heap_setCell_other _ _ _ _ (by simp)]
                exact HY.out
              rw [heap_setCell_same _ _ _ _ _ _ h1, cellsY_set]
            · apply hide
              rw [heap_setCell_other _ _ _ _ (by simp), heap_setCell_same _ _ _ _ _ _ HT.out, cellsT_set]
            · refine hide (HML.out.next fun x => ?_)
              rw [Tur.rows_next, ← HR.out]
              simp only [List.mem_append, List.mem_singleton, List.append_assoc]
              exact ⟨fun h => by rcases h with h | h | h; exact .inr (.inl h); exact .inl h; exact .inr (.inr h), fun h => by rcases h with h | h | h; exact .inr (.inl h); exact .inl h; exact .inr (.inr h)⟩
            · apply hide
              rw [Tur.word_next, List.cons_append, ← HR.out]
              have e1 : t[r]?.getD 0 = s[r] := by rw [HTT.out, byte_at s r hrn]
              rw [e1]
              exact HTX.out.next (by omega) s[r]
            · exact (hbx.setCell (p := ⟨w1.heap.size + 1, r, none⟩) (Nat.le_succ_of_le hb1.size) _).setCell (p := ⟨w1.heap.size, e', none⟩) hb1.size _
            · exact (hbv.setCell (p := ⟨w1.heap.size + 1, r, none⟩) (Nat.le_succ _) _).setCell (p := ⟨w1.heap.size, e', none⟩) (Nat.le_refl _) _
          case measure => simp [intOf]
    · have hfn : f = s.size := by omega
      have hMd := HM.out
      rw [hfn, ← HTS.out] at hMd
      have hAll := hMd.done HA.out
      have hwl := Tur.words_length t p cs
      have hpl := hAll.perm.length_eq
      have hE := HE.out
      have e0 : e = 0 := by
        rw [List.length_range, HTS.out] at hpl
        have : (Tur.allRows p cs).length = s.size := hpl
        omega
      have htx := HTX.out
      rw [e0] at htx
      obtain ⟨tl, td⟩ := htx
      rw [List.drop_zero] at td
      have HAll := hide hAll
      have HTD := hide td
      have hlt1 := heap_lt0 HY.out
      have hfz : wr.heap.size ≤ (wr.alloc (.cells #[.pointer none, .slice none 0 0] 66)).heap.size := (World.grownBy_alloc _ _ none).size
      have cW := writeAll_any wr.heap.size wr.heap.size w1.heap.size s.size ty (wr.alloc (.cells #[.pointer none, .slice none 0 0] 66)) (fresh_one wr) (by omega) hfz hlt1 (fun k v hv => by
        refine Lib.cell?_alloc_some _ (cell_here HY.out ?_)
        simpa [cellsY, Lib.byteCells] using hv)
      rw [tl] at cW
      have CW := hide cW
      clear hMd hAll hwl hpl hE td cW
      go_wp2_with (first
        | (go_at_call 54; refine CW.out.mono ?_; rintro e w2 ⟨rfl, hB2, hb2⟩)
        | (go_at_call 42; refine (Try.Builder_String_any _ _ _ _ hB2 (Nat.le_trans hfz hb2.size)).mono ?_; rintro e w3 ⟨rfl, hb3⟩))
      go_ret
      have hsz2 : w.heap.size ≤ wr.heap.size := hbx.size
      refine ⟨ty, cs.map (Tur.word t p), rfl, HAll.out.good HA.out, HTD.out.symm, HAll.out.turned HA.out, ?_⟩
      exact ((hbx.alloc hbx.size _).trans (hb2.mono hsz2)).trans (hb3.mono hsz2)
end Go.Proofs.Ytkiindkoiomieaa
