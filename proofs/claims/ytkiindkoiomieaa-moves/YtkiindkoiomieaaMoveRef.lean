/-
  P5: the walks of the document's Front and Behind.
-/
import Derived.Test.YtkiindkoiomieaaMove
namespace Go.Proofs.Ytkiindkoiomieaa
open Go.RowKit

theorem make_list (W : World) : (Instr.makeSlice 63 (.int .i64 256) (.int .i64 256)).run Try.prog W = .ok (.slice (some ⟨W.heap.size, 0, none⟩) 256 256) (W.alloc (.cells (cellsB (part 0)) 5)) := by
  obtain ⟨i0, hi, hz0, hz1, hz2⟩ := info_parts Try.info5
  have h := run_make (P := Try.prog) W 63 5 i0 (.int .u8 0) Try.underlying63 hi hz0 .i64 .i64 256 256 (by omega) (by omega) (by rw [hz2]; decide) (by decide)
  have e : madeCells (Value.int .u8 0).cells ((256 : Int).toNat * i0.size) = cellsB (part 0) := by
    rw [hz1]
    apply Array.ext'
    show (madeCells #[Value.int .u8 0] 256).toList = _
    rw [toList_madeCells_one]
    kernel_rfl
  rw [e] at h
  simpa using h

/-- The places above q, up to p, moved on by one. -/
def shift (l : List UInt8) (p q : Nat) : List UInt8 := (List.range 256).map fun i => if i ≤ q ∨ p < i then l[i]?.getD 0 else l[i - 1]?.getD 0

theorem shift_length (l : List UInt8) (p q : Nat) : (shift l p q).length = 256 := by simp [shift]

theorem shift_at (l : List UInt8) (p q : Nat) {i : Nat} (h : i < 256) : (shift l p q)[i]? = some (if i ≤ q ∨ p < i then l[i]?.getD 0 else l[i - 1]?.getD 0) := by
  simp [shift, h]

theorem shift_self {l : List UInt8} (h : l.length = 256) (p : Nat) : shift l p p = l := by
  apply List.ext_getElem?
  intro i
  by_cases hi : i < 256
  · rw [shift_at l p p hi, if_pos (by omega), List.getElem?_eq_getElem (by omega), Option.getD_some]
  · rw [List.getElem?_eq_none (by rw [shift_length]; omega), List.getElem?_eq_none (by omega)]

theorem shift_step {l : List UInt8} {p q : Nat} {d : UInt8} (hq : q + 1 ≤ p) (hp : p < 256) (hd : (shift l p (q + 1))[q]? = some d) : (shift l p (q + 1)).set (q + 1) d = shift l p q := by
  apply List.ext_getElem?
  intro i
  rw [List.getElem?_set]
  rw [shift_at l p (q + 1) (by omega), if_pos (by omega)] at hd
  by_cases hi : i < 256
  · by_cases hqi : q + 1 = i
    · subst hqi
      rw [if_pos rfl, if_pos (by rw [shift_length]; exact hi), shift_at l p q hi, if_neg (by omega), Nat.add_sub_cancel, hd]
    · rw [if_neg hqi, shift_at l p (q + 1) hi, shift_at l p q hi]
      by_cases h1 : i ≤ q ∨ p < i
      · rw [if_pos h1, if_pos (by omega)]
      · rw [if_neg h1, if_neg (by omega)]
  · rw [if_neg (by omega), List.getElem?_eq_none (by rw [shift_length]; omega), List.getElem?_eq_none (by rw [shift_length]; omega)]

theorem shift_end {l : List UInt8} {p : Nat} {c : UInt8} (hl : l.length = 256) (hp : p < 256) (hc : l[p]? = some c) : (shift l p 0).set 0 c = mtf l p := by
  apply List.ext_getElem?
  intro i
  rw [List.getElem?_set]
  unfold mtf
  rw [hc, Option.getD_some]
  cases i with
  | zero => rw [if_pos rfl, if_pos (by rw [shift_length]; omega)]; rfl
  | succ i =>
    rw [if_neg (by omega), List.getElem?_cons_succ]
    by_cases hi : i + 1 < 256
    · rw [shift_at l p 0 hi]
      by_cases h1 : i < p
      · rw [if_neg (by omega), List.getElem?_append_left (by simp; omega), List.getElem?_take_of_lt h1, Nat.add_sub_cancel, List.getElem?_eq_getElem (by omega), Option.getD_some]
      · rw [if_pos (by omega), List.getElem?_append_right (by simp; omega), List.getElem?_drop, List.length_take, Nat.min_eq_left (by omega), show p + 1 + (i - p) = i + 1 by omega, List.getElem?_eq_getElem (by omega), Option.getD_some]
    · rw [List.getElem?_eq_none (by rw [shift_length]; omega), List.getElem?_eq_none (by simp; omega)]

theorem conv_one (W : World) (n : Nat) (j : Nat) (hn : n < 256) : (convert 63 9 (.slice (some ⟨W.heap.size, 0, none⟩) 1 1)).run Try.prog ((W.drewN j).alloc (.cells #[.int .u8 (n : Int)] 5)) = .ok (.string ⟨#[UInt8.ofNat n]⟩) ((W.drewN j).alloc (.cells #[.int .u8 (n : Int)] 5)) := by
  have h := run_convert_bytes_back (P := Try.prog) ((W.drewN j).alloc (.cells #[.int .u8 (n : Int)] 5)) 63 9 5 ⟨W.heap.size, 0, none⟩ 1 [UInt8.ofNat n] Try.underlying63 Try.underlying5 Try.underlying9 (fun i hi => by
    have h0 : i = 0 := by simpa using hi
    subst h0
    have := World.cell?_alloc_mark (W.drewN j) #[.int .u8 (n : Int)] 5 (0, 0) 0
    rw [Addr.add_lit]
    rw [show (W.drewN j).heap.size = W.heap.size from rfl] at this
    rw [this]
    simp
    omega)
  simpa using h

theorem heap_lt {w : World} {g : Nat} {o : Obj} (h : w.heap[g]? = some o) : g < w.heap.size := (Array.getElem?_eq_some_iff.1 h).1

theorem push_data (tb : ByteArray) (c : UInt8) : (tb ++ (⟨#[c]⟩ : ByteArray)).data.toList = tb.data.toList ++ [c] := by
  rw [ByteArray.data_append, Array.toList_append]

theorem idx_here {l : List UInt8} {c d : UInt8} {j : Nat} (hj : j = l.idxOf c) (hd : l[j]? = some d) : d = c := by
  have hlt : j < l.length := (List.getElem?_eq_some_iff.1 hd).1
  rw [List.getElem?_eq_getElem hlt] at hd
  simp only [Option.some.injEq] at hd
  subst hj
  rw [← hd]
  exact List.getElem_idxOf hlt

theorem idx_ahead {l : List UInt8} {c d : UInt8} {j : Nat} (hj : j < l.idxOf c) (hd : l[j]? = some d) : d ≠ c := by
  intro e
  subst e
  have hlt : j < l.length := (List.getElem?_eq_some_iff.1 hd).1
  have := List.not_of_lt_findIdx hj
  rw [List.getElem?_eq_getElem hlt] at hd
  simp only [Option.some.injEq] at hd
  simp [hd] at this

theorem bne_bytes {c d : UInt8} (h : d ≠ c) : ((d.toNat : Int) != (c.toNat : Int)) = true := by
  rw [bne_iff_ne]
  intro e
  exact h (UInt8.toNat_inj.1 (by omega))

set_option maxHeartbeats 1000000 in
set_option maxRecDepth 100000 in
theorem refFront_any (s : ByteArray) (w : World) (hs : s.size ≤ 300) :
    Calls Try.prog 25 #[.string s] w fun e w' => e = .returned (.string ⟨(frontL (part 256) s.data.toList).toArray⟩) ∧ Below w.heap.size w w' := by
  have hmk := make_list
  go_enter Try.func25, Try.ntmps25
  go_wp2
  clear hmk
  go_loopw [4] (fun i wr => ∃ k : Nat, k ≤ 256 ∧ i = .int .i64 k ∧ Hid (wr.heap[w.heap.size]? = some (.cells (cellsB (part k)) 5 (0, 0))) ∧ Below w.heap.size w wr) (fun i _ => 256 - (intOf i).toNat)
  case atStart => exact ⟨0, by omega, rfl, heap_alloc_new _ _, (Below.refl _ _).alloc (Nat.le_refl _) _⟩
  case round =>
    obtain ⟨k, hk, rfl, HL, hbx⟩ := hrel
    by_cases hlt : k < 256
    · obtain ⟨c, hcc⟩ : ∃ c, (part k)[k]? = some c := ⟨_, List.getElem?_eq_getElem (by rw [part_length]; exact hlt)⟩
      have hcell := bl_cell HL.out hcc
      have hfr := frozen_of_row wr w.heap.size k _ 5 HL.out
      clear hcc
      go_wp2
      go_roundw
      case rel =>
        refine ⟨k + 1, by omega, by go_num, ?_, hbx.setCell (p := ⟨w.heap.size, k, none⟩) (Nat.le_refl _) _⟩
        show _ = _
        rw [heap_setCell_same _ _ _ _ _ _ HL.out]
        have e : (k : Int) = ((UInt8.ofNat k).toNat : Int) := by simp; omega
        rw [e, cellsB_set, part_set hlt]
      case measure => simp [intOf]; omega
    · have hk2 : k = 256 := by omega
      subst hk2
      go_wp2
      go_loopw [5, 6] (fun tv i wr => ∃ (k : Nat) (l : List UInt8) (tb : ByteArray), k ≤ s.size ∧ i = .int .i64 k ∧ tv = .string tb ∧ tb.size = k ∧ Hid (wr.heap[w.heap.size]? = some (.cells (cellsB l) 5 (0, 0))) ∧ Full l ∧ Below w.heap.size w wr ∧ Hid (tb.data.toList ++ frontL l (s.data.toList.drop k) = frontL (part 256) s.data.toList)) (fun _ i _ => s.size - (intOf i).toNat)
      case atStart => exact ⟨0, part 256, ⟨#[]⟩, Nat.zero_le _, rfl, rfl, rfl, HL, full_part, hbx, rfl⟩
      case round =>
        clear hbx HL hk hlt
        obtain ⟨k, l, tb, hk, rfl, rfl, htb, HL, hfull, hbx, HS⟩ := hrel
        by_cases hlt : k < s.size
        · obtain ⟨p, hp⟩ : ∃ p, p = l.idxOf s[k] := ⟨_, rfl⟩
          have hpl : p < 256 := by rw [hp]; exact idx_lt hfull _
          have HP := hide hp
          have HF := hide hfull
          clear hp hfull
          go_wp2
          go_loopw [7] (fun v w' => ∃ j n : Nat, j ≤ p ∧ v = .int .i64 j ∧ w' = wr.drewN n) (fun v _ => 256 - (intOf v).toNat)
          case atStart => exact ⟨0, 0, Nat.zero_le _, rfl, rfl⟩
          case round =>
            obtain ⟨j, n, hj, rfl, rfl⟩ := hrel
            obtain ⟨d, hd⟩ : ∃ d, l[j]? = some d := ⟨_, List.getElem?_eq_getElem (by rw [HF.out.1]; omega)⟩
            have hcell := bl_cell HL.out hd
            by_cases hjp : j < p
            · have hne : ((d.toNat : Int) != (s[k].toNat : Int)) = true := bne_bytes (idx_ahead (by rw [← HP.out]; exact hjp) hd)
              clear hd
              go_wp2_with fail
              go_quiet (fail)
              go_wp2
              go_roundw
              case rel => exact ⟨j + 1, _, by omega, by go_num, rfl⟩
              case measure => simp [intOf]; omega
            · have hjp2 : j = p := by omega
              subst hjp2
              have hdc := idx_here HP.out hd
              subst hdc
              have heq : ((s[k].toNat : Int) != (s[k].toNat : Int)) = false := by simp
              have HD := hide hd
              have hcv := fun m => conv_one wr j m hpl
              clear hd
              go_wp2_with fail
              go_quiet (fail)
              go_wp2
              clear hcv hcell heq
              have hgs : w.heap.size < wr.heap.size := heap_lt HL.out
              go_loopw [7] (fun v w' => ∃ q : Nat, q ≤ j ∧ v = .int .i64 q ∧ Hid (w'.heap[w.heap.size]? = some (.cells (cellsB (shift l j q)) 5 (0, 0))) ∧ Below w.heap.size w w') (fun v _ => (intOf v).toNat)
              case atStart => exact ⟨j, Nat.le_refl _, rfl, by show _ = _; rw [shift_self HF.out.1, Lib.alloc_old _ _ _ (by exact hgs)]; exact HL.out, (below_drewN hbx _).alloc (by exact Nat.le_of_lt hgs) _⟩
              case round =>
                clear hbx hgs
                obtain ⟨q, hq, rfl, HQ, hbq⟩ := hrel
                by_cases hq0 : 0 < q
                · obtain ⟨r, rfl⟩ : ∃ r, q = r + 1 := ⟨q - 1, by omega⟩
                  obtain ⟨d, hd⟩ : ∃ d, (shift l j (r + 1))[r]? = some d := ⟨_, List.getElem?_eq_getElem (by rw [shift_length]; omega)⟩
                  obtain ⟨d1, hd1⟩ : ∃ d1, (shift l j (r + 1))[r + 1]? = some d1 := ⟨_, List.getElem?_eq_getElem (by rw [shift_length]; omega)⟩
                  have hc0 := bl_cell HQ.out hd
                  have hc1 := bl_cell HQ.out hd1
                  have hf1 := frozen_of_row _ w.heap.size (r + 1) _ 5 HQ.out
                  have HD2 := hide hd
                  clear hd hd1
                  go_wp2
                  go_roundw
                  case rel => exact ⟨r, by omega, rfl, by show _ = _; rw [heap_setCell_same _ _ _ _ _ _ HQ.out, cellsB_set, shift_step hq hpl HD2.out], hbq.setCell (p := ⟨w.heap.size, r + 1, none⟩) (Nat.le_refl _) _⟩
                  case measure => simp [intOf]
                · have hqz : q = 0 := by omega
                  subst hqz
                  obtain ⟨d1, hd1⟩ : ∃ d1, (shift l j 0)[0]? = some d1 := ⟨_, List.getElem?_eq_getElem (by rw [shift_length]; omega)⟩
                  have hc1 := bl_cell HQ.out hd1
                  have hf1 := frozen_of_row _ w.heap.size 0 _ 5 HQ.out
                  clear hd1
                  go_wp2
                  go_roundw
                  case rel =>
                    refine ⟨k + 1, mtf l j, tb ++ ⟨#[UInt8.ofNat j]⟩, by omega, by go_num, rfl, by rw [ByteArray.size_append]; show tb.size + 1 = k + 1; omega, ?_, HF.out.mtf hpl, hbq.setCell (p := ⟨w.heap.size, 0, none⟩) (Nat.le_refl _) _, ?_⟩
                    · show _ = _
                      rw [heap_setCell_same _ _ _ _ _ _ HQ.out, cellsB_set, shift_end HF.out.1 hpl HD.out]
                    · show _ = _
                      rw [← HS.out, drop_byte s k hlt, frontL, ← HP.out, push_data, List.append_assoc]
                      rfl
                  case measure => simp [intOf]; omega
        · go_wp2
          go_ret
          have hend := HS.out
          rw [drop_end s k hlt, frontL, List.append_nil] at hend
          refine ⟨?_, hbx⟩
          rw [← hend]
          rfl

set_option maxHeartbeats 1000000 in
set_option maxRecDepth 100000 in
theorem refBehind_any (s : ByteArray) (w : World) (hs : s.size ≤ 300) :
    Calls Try.prog 26 #[.string s] w fun e w' => e = .returned (.string ⟨(behindL (part 256) s.data.toList).toArray⟩) ∧ Below w.heap.size w w' := by
  have hmk := make_list
  go_enter Try.func26, Try.ntmps26
  go_wp2
  clear hmk
  go_loopw [4] (fun i wr => ∃ k : Nat, k ≤ 256 ∧ i = .int .i64 k ∧ Hid (wr.heap[w.heap.size]? = some (.cells (cellsB (part k)) 5 (0, 0))) ∧ Below w.heap.size w wr) (fun i _ => 256 - (intOf i).toNat)
  case atStart => exact ⟨0, by omega, rfl, heap_alloc_new _ _, (Below.refl _ _).alloc (Nat.le_refl _) _⟩
  case round =>
    obtain ⟨k, hk, rfl, HL, hbx⟩ := hrel
    by_cases hlt : k < 256
    · obtain ⟨c, hcc⟩ : ∃ c, (part k)[k]? = some c := ⟨_, List.getElem?_eq_getElem (by rw [part_length]; exact hlt)⟩
      have hcell := bl_cell HL.out hcc
      have hfr := frozen_of_row wr w.heap.size k _ 5 HL.out
      clear hcc
      go_wp2
      go_roundw
      case rel =>
        refine ⟨k + 1, by omega, by go_num, ?_, hbx.setCell (p := ⟨w.heap.size, k, none⟩) (Nat.le_refl _) _⟩
        show _ = _
        rw [heap_setCell_same _ _ _ _ _ _ HL.out]
        have e : (k : Int) = ((UInt8.ofNat k).toNat : Int) := by simp; omega
        rw [e, cellsB_set, part_set hlt]
      case measure => simp [intOf]; omega
    · have hk2 : k = 256 := by omega
      subst hk2
      go_wp2
      go_loopw [5, 6] (fun tv i wr => ∃ (k : Nat) (l : List UInt8) (tb : ByteArray), k ≤ s.size ∧ i = .int .i64 k ∧ tv = .string tb ∧ tb.size = k ∧ Hid (wr.heap[w.heap.size]? = some (.cells (cellsB l) 5 (0, 0))) ∧ Full l ∧ Below w.heap.size w wr ∧ Hid (tb.data.toList ++ behindL l (s.data.toList.drop k) = behindL (part 256) s.data.toList)) (fun _ i _ => s.size - (intOf i).toNat)
      case atStart => exact ⟨0, part 256, ⟨#[]⟩, Nat.zero_le _, rfl, rfl, rfl, HL, full_part, hbx, rfl⟩
      case round =>
        clear hbx HL hk hlt
        obtain ⟨k, l, tb, hk, rfl, rfl, htb, HL, hfull, hbx, HS⟩ := hrel
        by_cases hlt : k < s.size
        · have hpl : s[k].toNat < 256 := by have := s[k].toNat_lt; omega
          obtain ⟨c, hd⟩ : ∃ c, l[s[k].toNat]? = some c := ⟨_, List.getElem?_eq_getElem (by rw [hfull.1]; exact hpl)⟩
          have hcell := bl_cell HL.out hd
          have hcv := conv_one wr c.toNat 0 (by have := c.toNat_lt; omega)
          rw [World.drewN_zero, show UInt8.ofNat c.toNat = c by simp] at hcv
          have hstep : behindL l (s.data.toList.drop k) = c :: behindL (mtf l s[k].toNat) (s.data.toList.drop (k + 1)) := by
            rw [drop_byte s k hlt, behindL, hd, Option.getD_some]
          have HST := hide hstep
          have HD := hide hd
          have HF := hide hfull
          clear hd hfull hstep
          go_wp2
          clear hcv hcell
          have hgs : w.heap.size < wr.heap.size := heap_lt HL.out
          go_loopw [7] (fun v w' => ∃ q : Nat, q ≤ s[k].toNat ∧ v = .int .i64 q ∧ Hid (w'.heap[w.heap.size]? = some (.cells (cellsB (shift l s[k].toNat q)) 5 (0, 0))) ∧ Below w.heap.size w w') (fun v _ => (intOf v).toNat)
          case atStart => exact ⟨s[k].toNat, Nat.le_refl _, rfl, by show _ = _; rw [shift_self HF.out.1, Lib.alloc_old _ _ _ (by exact hgs)]; exact HL.out, hbx.alloc (by exact Nat.le_of_lt hgs) _⟩
          case round =>
            clear hbx hgs
            obtain ⟨q, hq, rfl, HQ, hbq⟩ := hrel
            by_cases hq0 : 0 < q
            · obtain ⟨r, rfl⟩ : ∃ r, q = r + 1 := ⟨q - 1, by omega⟩
              obtain ⟨d, hd⟩ : ∃ d, (shift l s[k].toNat (r + 1))[r]? = some d := ⟨_, List.getElem?_eq_getElem (l := shift l s[k].toNat (r + 1)) (i := r) (by have := shift_length l s[k].toNat (r + 1); omega)⟩
              obtain ⟨d1, hd1⟩ : ∃ d1, (shift l s[k].toNat (r + 1))[r + 1]? = some d1 := ⟨_, List.getElem?_eq_getElem (l := shift l s[k].toNat (r + 1)) (i := r + 1) (by have := shift_length l s[k].toNat (r + 1); omega)⟩
              have hc0 := bl_cell HQ.out hd
              have hc1 := bl_cell HQ.out hd1
              have hf1 := frozen_of_row _ w.heap.size (r + 1) _ 5 HQ.out
              have HD2 := hide hd
              clear hd hd1
              go_wp2
              go_roundw
              case rel => exact ⟨r, by omega, rfl, by show _ = _; rw [heap_setCell_same _ _ _ _ _ _ HQ.out, cellsB_set, shift_step hq hpl HD2.out], hbq.setCell (p := ⟨w.heap.size, r + 1, none⟩) (Nat.le_refl _) _⟩
              case measure => simp [intOf]
            · have hqz : q = 0 := by omega
              subst hqz
              obtain ⟨d1, hd1⟩ : ∃ d1, (shift l s[k].toNat 0)[0]? = some d1 := ⟨_, List.getElem?_eq_getElem (l := shift l s[k].toNat 0) (i := 0) (by have := shift_length l s[k].toNat 0; omega)⟩
              have hc1 := bl_cell HQ.out hd1
              have hf1 := frozen_of_row _ w.heap.size 0 _ 5 HQ.out
              clear hd1
              go_wp2
              go_roundw
              case rel =>
                refine ⟨k + 1, mtf l s[k].toNat, tb ++ ⟨#[c]⟩, by omega, by go_num, rfl, by rw [ByteArray.size_append]; show tb.size + 1 = k + 1; omega, ?_, HF.out.mtf hpl, hbq.setCell (p := ⟨w.heap.size, 0, none⟩) (Nat.le_refl _) _, ?_⟩
                · show _ = _
                  rw [heap_setCell_same _ _ _ _ _ _ HQ.out, cellsB_set, shift_end HF.out.1 hpl HD.out]
                · show _ = _
                  rw [← HS.out, HST.out, push_data, List.append_assoc]
                  rfl
              case measure => simp [intOf]; omega
        · go_wp2
          go_ret
          have hend := HS.out
          rw [drop_end s k hlt, behindL, List.append_nil] at hend
          refine ⟨?_, hbx⟩
          rw [← hend]
          rfl
end Go.Proofs.Ytkiindkoiomieaa
