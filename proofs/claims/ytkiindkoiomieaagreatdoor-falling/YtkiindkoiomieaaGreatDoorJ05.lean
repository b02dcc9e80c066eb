import Derived.Test.YtkiindkoiomieaaGreatDoorJ04
import Derived.Deep.WholeRow
import Derived.Test.YtkiindkoiomieaaGreatDoorJ02
import Derived.Test.YtkiindkoiomieaaGreatDoorJ01
import Derived.Deep.RegionHeld3
import Derived.BigRegion
section
/-
  P5: places and bytes, as functions of lists; the walk of bytesAt.
-/
namespace Go.Proofs.YtkiindkoiomieaaGreatDoor
open Go.RowKit

/-- Bytes as places in the list. -/
def frontL : List UInt8 → List UInt8 → List UInt8
  | _, [] => []
  | l, c :: r => UInt8.ofNat (l.idxOf c) :: frontL (mtf l (l.idxOf c)) r

/-- Places as bytes of the list. -/
def behindL : List UInt8 → List UInt8 → List UInt8
  | _, [] => []
  | l, p :: r => (l[p.toNat]?.getD 0) :: behindL (mtf l p.toNat) r

/-- All bytes stand in the list. -/
def Full (l : List UInt8) : Prop := l.length = 256 ∧ ∀ c, c ∈ l

theorem full_part : Full (part 256) := by
  refine ⟨part_length _, fun c => ?_⟩
  refine List.mem_map.2 ⟨c.toNat, List.mem_range.2 (by have := c.toNat_lt; omega), ?_⟩
  rw [if_pos (by have := c.toNat_lt; omega)]
  simp

theorem Full.mtf {l : List UInt8} (h : Full l) {p : Nat} (hp : p < 256) : Full (mtf l p) := by
  have hp' : p < l.length := by rw [h.1]; exact hp
  refine ⟨by rw [mtf_length hp', h.1], fun c => ?_⟩
  have hc := h.2 c
  rw [← List.take_append_drop p l, List.mem_append] at hc
  rw [List.drop_eq_getElem_cons hp', List.mem_cons] at hc
  unfold Go.Proofs.YtkiindkoiomieaaGreatDoor.mtf
  rw [List.getElem?_eq_getElem hp', Option.getD_some, List.mem_cons, List.mem_append]
  rcases hc with h1 | h1 | h1
  · exact .inr (.inl h1)
  · exact .inl h1
  · exact .inr (.inr h1)

theorem drop_byte (s : ByteArray) (k : Nat) (h : k < s.size) : s.data.toList.drop k = s[k] :: s.data.toList.drop (k + 1) := by
  have h' : k < s.data.toList.length := by simpa using h
  rw [List.drop_eq_getElem_cons h']
  rfl

theorem builder_kept {T e : TypeId} {B b : Nat} {bs : List Value} {w w' : World} {g : Nat} (h : Lib.IsBuilder T e B b bs w) (hg : w.grownBy w' (some g)) (hgB : g < B) : Lib.IsBuilder T e B b bs w' := by
  have key : ∀ p, Lib.BuilderAt T e B b p bs w → Lib.BuilderAt T e B b p bs w' := fun p hp => by
    have hlt := hp.lt
    obtain ⟨hB, v, hb, hown, hne⟩ := hp
    refine ⟨hB, v, by rw [hg.block b hlt (by simp; omega)]; exact hb, hown.kept hg ?_, hne⟩
    cases hv : v.ownBlock with
    | none => exact .inl rfl
    | some k =>
      right
      have := (hown.lt k hv).1
      simp
      omega
  rcases h with h | h
  · exact .inl (key _ h)
  · exact .inr (key _ h)

theorem byteCells_snoc (l : List UInt8) (c : UInt8) : Lib.byteCells l ++ [.int .u8 c.toNat] = Lib.byteCells (l ++ [c]) := by simp [Lib.byteCells]

theorem fresh_at (w1 : World) (o : Obj) : Lib.IsBuilder 83 5 (w1.heap.size + 1) (w1.heap.size + 1) (Lib.byteCells []) ((w1.alloc o).alloc (.cells #[.pointer none, .slice none 0 0] 83)) := by
  have h := Lib.fresh_isBuilder 83 5 (w1.alloc o)
  have e : (w1.alloc o).heap.size = w1.heap.size + 1 := by simp
  rw [e] at h
  exact h

theorem ret_str {a b : List UInt8} (h : a = b) : Ending.returned (.string ⟨a.toArray⟩) = .returned (.string ⟨b.toArray⟩) := by rw [h]

theorem drop_end (s : ByteArray) (k : Nat) (h : ¬ k < s.size) : s.data.toList.drop k = [] := List.drop_eq_nil_of_le (by rw [← Lib.size_eq]; omega)

set_option maxHeartbeats 1000000 in
set_option maxRecDepth 100000 in
theorem bytesAt_any (s : ByteArray) (w : World) (hs : s.size ≤ 500) :
    Calls Tryz.prog 36 #[.string s] w fun e w' => e = .returned (.string ⟨(behindL (part 256) s.data.toList).toArray⟩) ∧ Below w.heap.size w w' := by
  have hz := zv71
  go_enter Tryz.func36, Tryz.ntmps36
  go_wp2_with (first
    | (go_at_call 65; refine (sorted_any _).mono ?_; rintro e w1 ⟨rfl, hb1⟩)
    | (refine wpList_store_row rfl 88 (.tmp 3) (.tmp 7) rfl w1.heap.size (cellsB (part 256)) rfl rfl 88 (cellsB (part 0)) (heap_alloc_new _ _) (by rw [cellsB_size, part_length]; exact Tryz.size88) (by rw [cellsB_size, cellsB_size, part_length, part_length]) (all_one _) ?_; rw [World.setRow_alloc_new]))
  clear hz
  go_loopw [10] (fun i wr => ∃ (k : Nat) (l out : List UInt8), k ≤ s.size ∧ i = .int .i64 k ∧ Hid (wr.heap[w1.heap.size]? = some (.cells (cellsB l) 88 (0, 0))) ∧ Lib.IsBuilder 83 5 (w1.heap.size + 1) (w1.heap.size + 1) (Lib.byteCells out) wr ∧ out.length = k ∧ Full l ∧ Below w.heap.size w wr ∧ w1.heap.size + 1 ≤ wr.heap.size ∧ Hid (out ++ behindL l (s.data.toList.drop k) = behindL (part 256) s.data.toList)) (fun i _ => s.size - (intOf i).toNat)
  case atStart => exact ⟨0, part 256, [], Nat.zero_le _, rfl, heap_alloc2_old _ _ _, fresh_at _ _, rfl, full_part, (hb1.alloc hb1.size _).alloc (by have := hb1.size; simp; omega) _, by simp, rfl⟩
  case round =>
    obtain ⟨k, l, out, hk, rfl, HL, hB, hok, hfull, hbx, hsz, HS⟩ := hrel
    by_cases hlt : k < s.size
    · obtain ⟨c, hc⟩ : ∃ c, l[s[k].toNat]? = some c := ⟨_, List.getElem?_eq_getElem (by rw [hfull.1]; have := s[k].toNat_lt; omega)⟩
      have hcell := bl_cell HL.out hc
      have hpl : s[k].toNat < 256 := by have := s[k].toNat_lt; omega
      have HC := hide hc
      have cW := hide (write_any (w1.heap.size + 1) (w1.heap.size + 1) (Lib.byteCells out) c.toNat wr hB (by rw [Lib.byteCells_length]; omega) hsz)
      have HF := hide hfull
      have hstep : behindL l (s.data.toList.drop k) = c :: behindL (mtf l s[k].toNat) (s.data.toList.drop (k + 1)) := by
        rw [drop_byte s k hlt, behindL, hc, Option.getD_some]
      have HST := hide hstep
      clear hB hc hfull hstep
      go_wp2_with (first
        | (go_at_call 63; refine (unhide cW).mono ?_; rintro e w2 ⟨rfl, hb2, hbl2⟩; have cL := hide (lay_any w1.heap.size s[k].toNat l w2 HF.out.1 hpl ((hbl2.block _ (Nat.lt_succ_self _)).trans HL.out)))
        | (go_at_call 67; refine (unhide cL).mono ?_; rintro e w3 ⟨rfl, hl3, hg3⟩; have HL3 := hide hl3; clear hl3))
      go_roundw
      case rel =>
        refine ⟨k + 1, mtf l s[k].toNat, out ++ [c], by omega, by go_num, HL3, ?_, by simp; exact hok, HF.out.mtf hpl, (hbx.trans (hbl2.mono (by have := hb1.size; omega))).grown hg3 (by have := hb1.size; have := hbl2.size; omega) (fun j hj => by cases hj; exact hb1.size), ?_, ?_⟩
        · rw [← byteCells_snoc]
          exact builder_kept (.inr hb2) hg3 (Nat.lt_succ_self _)
        · have := hbl2.size
          have := hg3.size
          omega
        · show _ = _
          rw [← HS.out, HST.out, List.append_assoc]
          rfl
      case measure => simp [intOf]; omega
    · go_wp2_with (go_at_call 64; refine (Tryz.Builder_String_any _ _ _ _ hB (by omega)).mono ?_; rintro e w' ⟨rfl, hb3⟩)
      go_ret
      have hend := HS.out
      rw [drop_end s k hlt, behindL, List.append_nil] at hend
      exact ⟨ret_str hend, hbx.trans (hb3.mono (by have := hb1.size; omega))⟩

theorem index_of {l : List UInt8} {c : UInt8} (h : c ∈ l) : Lib.indexByte l c = (l.idxOf c : Nat) := by
  induction l with
  | nil => cases h
  | cons b l ih =>
    by_cases hb : b = c
    · subst hb
      simp [Lib.indexByte]
    · have hm : c ∈ l := by
        rcases List.mem_cons.1 h with h1 | h1
        · exact absurd h1.symm hb
        · exact h1
      have hbc : (b == c) = false := by simpa using hb
      have hne : ((l.idxOf c : Int) == -1) = false := by rw [beq_eq_false_iff_ne]; omega
      rw [List.idxOf_cons, hbc, Lib.indexByte, hbc, ih hm, hne]
      simp

theorem idx_lt {l : List UInt8} (h : Full l) (c : UInt8) : l.idxOf c < 256 := by
  rw [← h.1]
  exact List.idxOf_lt_length_of_mem (h.2 c)

theorem bytesOf_cast (l : List UInt8) : Lib.bytesOf (l.map fun b => (b.toNat : Int)) = l := by
  unfold Lib.bytesOf
  rw [List.map_map]
  conv => rhs; rw [← List.map_id l]
  apply List.map_congr_left
  intro b _
  simp

set_option maxHeartbeats 1000000 in
set_option maxRecDepth 100000 in
theorem placesOf_any (s : ByteArray) (w : World) (hs : s.size ≤ 300) :
    Calls Tryz.prog 35 #[.string s] w fun e w' => e = .returned (.string ⟨(frontL (part 256) s.data.toList).toArray⟩) ∧ Below w.heap.size w w' := by
  have hz := zv71
  go_enter Tryz.func35, Tryz.ntmps35
  go_wp2_with (first
    | (go_at_call 65; refine (sorted_any _).mono ?_; rintro e w1 ⟨rfl, hb1⟩)
    | (refine wpList_store_row rfl 88 (.tmp 3) (.tmp 7) rfl w1.heap.size (cellsB (part 256)) rfl rfl 88 (cellsB (part 0)) (heap_alloc_new _ _) (by rw [cellsB_size, part_length]; exact Tryz.size88) (by rw [cellsB_size, cellsB_size, part_length, part_length]) (all_one _) ?_; rw [World.setRow_alloc_new]))
  clear hz
  go_loopw [10] (fun i wr => ∃ (k : Nat) (l out : List UInt8), k ≤ s.size ∧ i = .int .i64 k ∧ Hid (wr.heap[w1.heap.size]? = some (.cells (cellsB l) 88 (0, 0))) ∧ Lib.IsBuilder 83 5 (w1.heap.size + 1) (w1.heap.size + 1) (Lib.byteCells out) wr ∧ out.length = k ∧ Full l ∧ Below w.heap.size w wr ∧ w1.heap.size + 1 ≤ wr.heap.size ∧ Hid (out ++ frontL l (s.data.toList.drop k) = frontL (part 256) s.data.toList)) (fun i _ => s.size - (intOf i).toNat)
  case atStart => exact ⟨0, part 256, [], Nat.zero_le _, rfl, heap_alloc2_old _ _ _, fresh_at _ _, rfl, full_part, (hb1.alloc hb1.size _).alloc (by have := hb1.size; simp; omega) _, by simp, rfl⟩
  case round =>
    obtain ⟨k, l, out, hk, rfl, HL, hB, hok, hfull, hbx, hsz, HS⟩ := hrel
    by_cases hlt : k < s.size
    · obtain ⟨p, hp⟩ : ∃ p, p = l.idxOf s[k] := ⟨_, rfl⟩
      have hpl : p < 256 := by rw [hp]; exact idx_lt hfull _
      have hpw : IntKind.u8.wrap (p : Int) = (p : Int) := IntWalk.u8_in _ (by omega)
      have hpc : (p : Int) = ((UInt8.ofNat p).toNat : Int) := by simp; omega
      have cI := Tryz.bytes_IndexByte w1.heap.size 0 256 256 (l.map fun b => (b.toNat : Int)) (s[k].toNat : Int)
      have cI2 : ∀ W : World, W.heap = wr.heap → Calls Tryz.prog 66 #[.slice (some ⟨w1.heap.size, 0, none⟩) 256 256, .int .u8 (s[k].toNat : Int)] W fun e w' => e = .returned (.int .i64 (p : Int)) ∧ w' = W := fun W hW => by
        have h := cI W (by simp [hfull.1]) (fun i hi => by
          have hi' : i < l.length := by rw [hfull.1]; exact hi
          have := bl_cell (w := W) (g := w1.heap.size) (l := l) (t := 88) (fr := (0, 0)) (by rw [hW]; exact HL.out) (List.getElem?_eq_getElem hi')
          rw [Nat.zero_add, this]
          simp [List.getD, hi'])
        rw [bytesOf_cast] at h
        have e1 : (s[k].toNat : Int).toNat.toUInt8 = s[k] := by simp
        rw [e1, index_of (hfull.2 _), ← hp] at h
        exact h
      have hstep : frontL l (s.data.toList.drop k) = UInt8.ofNat p :: frontL (mtf l p) (s.data.toList.drop (k + 1)) := by
        rw [drop_byte s k hlt, frontL, ← hp]
      have HI := hide cI2
      have cW := hide (fun n => write_any (w1.heap.size + 1) (w1.heap.size + 1) (Lib.byteCells out) (p : Int) (wr.drewN n) hB (by rw [Lib.byteCells_length]; omega) hsz)
      have HF := hide hfull
      have HST := hide hstep
      have HP := hide hpc
      clear hB hfull hstep cI cI2 hp hpc
      go_wp2_with fail
      go_quiet ((go_at_call 66; exact Calls.quiet_of_same (HI.out _ rfl)))
      go_wp2_with (first
        | (go_at_call 63; refine (unhide cW _).mono ?_; rintro e w2 ⟨rfl, hb2, hbl2⟩; have cL := hide (lay_any w1.heap.size p l w2 HF.out.1 hpl ((hbl2.block _ (Nat.lt_succ_self _)).trans HL.out)))
        | (go_at_call 67; refine (unhide cL).mono ?_; rintro e w3 ⟨rfl, hl3, hg3⟩; have HL3 := hide hl3; clear hl3))
      go_roundw
      case rel =>
        have hbl3 : Below (w1.heap.size + 1) wr w2 := (below_drewN (Below.refl _ _) _).trans hbl2
        refine ⟨k + 1, mtf l p, out ++ [UInt8.ofNat p], by omega, by go_num, HL3, ?_, by simp; exact hok, HF.out.mtf hpl, (hbx.trans (hbl3.mono (by have := hb1.size; omega))).grown hg3 (by have := hb1.size; have := hbl3.size; omega) (fun j hj => by cases hj; exact hb1.size), ?_, ?_⟩
        · rw [← byteCells_snoc, ← HP.out]
          exact builder_kept (.inr hb2) hg3 (Nat.lt_succ_self _)
        · have := hbl3.size
          have := hg3.size
          omega
        · show _ = _
          rw [← HS.out, HST.out, List.append_assoc]
          rfl
      case measure => simp [intOf]; omega
    · go_wp2_with (go_at_call 64; refine (Tryz.Builder_String_any _ _ _ _ hB (by omega)).mono ?_; rintro e w' ⟨rfl, hb3⟩)
      go_ret
      have hend := HS.out
      rw [drop_end s k hlt, frontL, List.append_nil] at hend
      exact ⟨ret_str hend, hbx.trans (hb3.mono (by have := hb1.size; omega))⟩
end Go.Proofs.YtkiindkoiomieaaGreatDoor
end

section
/-
  P5: the walks of the document's Front and Behind.
-/
namespace Go.Proofs.YtkiindkoiomieaaGreatDoor
open Go.RowKit

theorem make_list (W : World) : (Instr.makeSlice 81 (.int .i64 256) (.int .i64 256)).run Tryz.prog W = .ok (.slice (some ⟨W.heap.size, 0, none⟩) 256 256) (W.alloc (.cells (cellsB (part 0)) 5)) := by
  obtain ⟨i0, hi, hz0, hz1, hz2⟩ := info_parts Tryz.info5
  have h := run_make (P := Tryz.prog) W 81 5 i0 (.int .u8 0) Tryz.underlying81 hi hz0 .i64 .i64 256 256 (by omega) (by omega) (by rw [hz2]; decide) (by decide)
  have e : madeCells (Value.int .u8 0).cells ((256 : Int).toNat * i0.size) = cellsB (part 0) := by
    rw [hz1]
    apply Array.ext'
    show (madeCells #[Value.int .u8 0] 256).toList = _
    rw [toList_madeCells_one]
    kernel_rfl
  rw [e] at h
  simpa using h

/-- The places above q, up to p, moved on by one. -/
def shift (l : List UInt8) (p q : Nat) : List UInt8 := (List.range 256).map fun i => if i ≤ q ∨ p < i then l[i]?.getD 0 else l[i - 1]?.getD 0

theorem shift_length (l : List UInt8) (p q : Nat) : (shift l p q).length = 256 := by simp [shift]

theorem shift_at (l : List UInt8) (p q : Nat) {i : Nat} (h : i < 256) : (shift l p q)[i]? = some (if i ≤ q ∨ p < i then l[i]?.getD 0 else l[i - 1]?.getD 0) := by
  simp [shift, h]

theorem shift_self {l : List UInt8} (h : l.length = 256) (p : Nat) : shift l p p = l := by
  apply List.ext_getElem?
  intro i
  by_cases hi : i < 256
  · rw [shift_at l p p hi, if_pos (by omega), List.getElem?_eq_getElem (by omega), Option.getD_some]
  · rw [List.getElem?_eq_none (by rw [shift_length]; omega), List.getElem?_eq_none (by omega)]

theorem shift_step {l : List UInt8} {p q : Nat} {d : UInt8} (hq : q + 1 ≤ p) (hp : p < 256) (hd : (shift l p (q + 1))[q]? = some d) : (shift l p (q + 1)).set (q + 1) d = shift l p q := by
  apply List.ext_getElem?
  intro i
  rw [List.getElem?_set]
  rw [shift_at l p (q + 1) (by omega), if_pos (by omega)] at hd
  by_cases hi : i < 256
  · by_cases hqi : q + 1 = i
    · subst hqi
      rw [if_pos rfl, if_pos (by rw [shift_length]; exact hi), shift_at l p q hi, if_neg (by omega), Nat.add_sub_cancel, hd]
    · rw [if_neg hqi, shift_at l p (q + 1) hi, shift_at l p q hi]
      by_cases h1 : i ≤ q ∨ p < i
      · rw [if_pos h1, if_pos (by omega)]
      · rw [if_neg h1, if_neg (by omega)]
  · rw [if_neg (by omega), List.getElem?_eq_none (by rw [shift_length]; omega), List.getElem?_eq_none (by rw [shift_length]; omega)]

theorem shift_end {l : List UInt8} {p : Nat} {c : UInt8} (hl : l.length = 256) (hp : p < 256) (hc : l[p]? = some c) : (shift l p 0).set 0 c = mtf l p := by
  apply List.ext_getElem?
  intro i
  rw [List.getElem?_set]
  unfold mtf
  rw [hc, Option.getD_some]
  cases i with
  | zero => rw [if_pos rfl, if_pos (by rw [shift_length]; omega)]; rfl
  | succ i =>
    rw [if_neg (by omega), List.getElem?_cons_succ]
    by_cases hi : i + 1 < 256
    · rw [shift_at l p 0 hi]
      by_cases h1 : i < p
      · rw [if_neg (by omega), List.getElem?_append_left (by simp; omega), List.getElem?_take_of_lt h1, Nat.add_sub_cancel, List.getElem?_eq_getElem (by omega), Option.getD_some]
      · rw [if_pos (by omega), List.getElem?_append_right (by simp; omega), List.getElem?_drop, List.length_take, Nat.min_eq_left (by omega), show p + 1 + (i - p) = i + 1 by omega, List.getElem?_eq_getElem (by omega), Option.getD_some]
    · rw [List.getElem?_eq_none (by rw [shift_length]; omega), List.getElem?_eq_none (by simp; omega)]

theorem conv_one (W : World) (n : Nat) (j : Nat) (hn : n < 256) : (convert 81 9 (.slice (some ⟨W.heap.size, 0, none⟩) 1 1)).run Tryz.prog ((W.drewN j).alloc (.cells #[.int .u8 (n : Int)] 5)) = .ok (.string ⟨#[UInt8.ofNat n]⟩) ((W.drewN j).alloc (.cells #[.int .u8 (n : Int)] 5)) := by
  have h := run_convert_bytes_back (P := Tryz.prog) ((W.drewN j).alloc (.cells #[.int .u8 (n : Int)] 5)) 81 9 5 ⟨W.heap.size, 0, none⟩ 1 [UInt8.ofNat n] Tryz.underlying81 Tryz.underlying5 Tryz.underlying9 (fun i hi => by
    have h0 : i = 0 := by simpa using hi
    subst h0
    have := World.cell?_alloc_mark (W.drewN j) #[.int .u8 (n : Int)] 5 (0, 0) 0
    rw [Addr.add_lit]
    rw [show (W.drewN j).heap.size = W.heap.size from rfl] at this
    rw [this]
    simp
    omega)
  simpa using h

theorem heap_lt {w : World} {g : Nat} {o : Obj} (h : w.heap[g]? = some o) : g < w.heap.size := (Array.getElem?_eq_some_iff.1 h).1

theorem push_data (tb : ByteArray) (c : UInt8) : (tb ++ (⟨#[c]⟩ : ByteArray)).data.toList = tb.data.toList ++ [c] := by
  rw [ByteArray.data_append, Array.toList_append]

theorem idx_here {l : List UInt8} {c d : UInt8} {j : Nat} (hj : j = l.idxOf c) (hd : l[j]? = some d) : d = c := by
  have hlt : j < l.length := (List.getElem?_eq_some_iff.1 hd).1
  rw [List.getElem?_eq_getElem hlt] at hd
  simp only [Option.some.injEq] at hd
  subst hj
  rw [← hd]
  exact List.getElem_idxOf hlt

theorem idx_ahead {l : List UInt8} {c d : UInt8} {j : Nat} (hj : j < l.idxOf c) (hd : l[j]? = some d) : d ≠ c := by
  intro e
  subst e
  have hlt : j < l.length := (List.getElem?_eq_some_iff.1 hd).1
  have := List.not_of_lt_findIdx hj
  rw [List.getElem?_eq_getElem hlt] at hd
  simp only [Option.some.injEq] at hd
  simp [hd] at this

theorem bne_bytes {c d : UInt8} (h : d ≠ c) : ((d.toNat : Int) != (c.toNat : Int)) = true := by
  rw [bne_iff_ne]
  intro e
  exact h (UInt8.toNat_inj.1 (by omega))

set_option maxHeartbeats 1000000 in
set_option maxRecDepth 100000 in
theorem refFront_any (s : ByteArray) (w : World) (hs : s.size ≤ 300) :
    Calls Tryz.prog 87 #[.string s] w fun e w' => e = .returned (.string ⟨(frontL (part 256) s.data.toList).toArray⟩) ∧ Below w.heap.size w w' := by
  have hmk := make_list
  go_enter Tryz.func87, Tryz.ntmps87
  go_wp2
  clear hmk
  go_loopw [4] (fun i wr => ∃ k : Nat, k ≤ 256 ∧ i = .int .i64 k ∧ Hid (wr.heap[w.heap.size]? = some (.cells (cellsB (part k)) 5 (0, 0))) ∧ Below w.heap.size w wr) (fun i _ => 256 - (intOf i).toNat)
  case atStart => exact ⟨0, by omega, rfl, heap_alloc_new _ _, (Below.refl _ _).alloc (Nat.le_refl _) _⟩
  case round =>
    obtain ⟨k, hk, rfl, HL, hbx⟩ := hrel
    by_cases hlt : k < 256
    · obtain ⟨c, hcc⟩ : ∃ c, (part k)[k]? = some c := ⟨_, List.getElem?_eq_getElem (by rw [part_length]; exact hlt)⟩
      have hcell := bl_cell HL.out hcc
      have hfr := frozen_of_row wr w.heap.size k _ 5 HL.out
      clear hcc
      go_wp2
      go_roundw
      case rel =>
        refine ⟨k + 1, by omega, by go_num, ?_, hbx.setCell (p := ⟨w.heap.size, k, none⟩) (Nat.le_refl _) _⟩
        show _ = _
        rw [heap_setCell_same _ _ _ _ _ _ HL.out]
        have e : (k : Int) = ((UInt8.ofNat k).toNat : Int) := by simp; omega
        rw [e, cellsB_set, part_set hlt]
      case measure => simp [intOf]; omega
    · have hk2 : k = 256 := by omega
      subst hk2
      go_wp2
      go_loopw [5, 6] (fun tv i wr => ∃ (k : Nat) (l : List UInt8) (tb : ByteArray), k ≤ s.size ∧ i = .int .i64 k ∧ tv = .string tb ∧ tb.size = k ∧ Hid (wr.heap[w.heap.size]? = some (.cells (cellsB l) 5 (0, 0))) ∧ Full l ∧ Below w.heap.size w wr ∧ Hid (tb.data.toList ++ frontL l (s.data.toList.drop k) = frontL (part 256) s.data.toList)) (fun _ i _ => s.size - (intOf i).toNat)
      case atStart => exact ⟨0, part 256, ⟨#[]⟩, Nat.zero_le _, rfl, rfl, rfl, HL, full_part, hbx, rfl⟩
      case round =>
        clear hbx HL hk hlt
        obtain ⟨k, l, tb, hk, rfl, rfl, htb, HL, hfull, hbx, HS⟩ := hrel
        by_cases hlt : k < s.size
        · obtain ⟨p, hp⟩ : ∃ p, p = l.idxOf s[k] := ⟨_, rfl⟩
          have hpl : p < 256 := by rw [hp]; exact idx_lt hfull _
          have HP := hide hp
          have HF := hide hfull
          clear hp hfull
          go_wp2
          go_loopw [7] (fun v w' => ∃ j n : Nat, j ≤ p ∧ v = .int .i64 j ∧ w' = wr.drewN n) (fun v _ => 256 - (intOf v).toNat)
          case atStart => exact ⟨0, 0, Nat.zero_le _, rfl, rfl⟩
          case round =>
            obtain ⟨j, n, hj, rfl, rfl⟩ := hrel
            obtain ⟨d, hd⟩ : ∃ d, l[j]? = some d := ⟨_, List.getElem?_eq_getElem (by rw [HF.out.1]; omega)⟩
            have hcell := bl_cell HL.out hd
            by_cases hjp : j < p
            · have hne : ((d.toNat : Int) != (s[k].toNat : Int)) = true := bne_bytes (idx_ahead (by rw [← HP.out]; exact hjp) hd)
              clear hd
              go_wp2_with fail
              go_quiet (fail)
              go_wp2
              go_roundw
              case rel => exact ⟨j + 1, _, by omega, by go_num, rfl⟩
              case measure => simp [intOf]; omega
            · have hjp2 : j = p := by omega
              subst hjp2
              have hdc := idx_here HP.out hd
              subst hdc
              have heq : ((s[k].toNat : Int) != (s[k].toNat : Int)) = false := by simp
              have HD := hide hd
              have hcv := fun m => conv_one wr j m hpl
              clear hd
              go_wp2_with fail
              go_quiet (fail)
              go_wp2
              clear hcv hcell heq
              have hgs : w.heap.size < wr.heap.size := heap_lt HL.out
              go_loopw [7] (fun v w' => ∃ q : Nat, q ≤ j ∧ v = .int .i64 q ∧ Hid (w'.heap[w.heap.size]? = some (.cells (cellsB (shift l j q)) 5 (0, 0))) ∧ Below w.heap.size w w') (fun v _ => (intOf v).toNat)
              case atStart => exact ⟨j, Nat.le_refl _, rfl, by show _ = _; rw [shift_self HF.out.1, Lib.alloc_old _ _ _ (by exact hgs)]; exact HL.out, (below_drewN hbx _).alloc (by exact Nat.le_of_lt hgs) _⟩
              case round =>
                clear hbx hgs
                obtain ⟨q, hq, rfl, HQ, hbq⟩ := hrel
                by_cases hq0 : 0 < q
                · obtain ⟨r, rfl⟩ : ∃ r, q = r + 1 := ⟨q - 1, by omega⟩
                  obtain ⟨d, hd⟩ : ∃ d, (shift l j (r + 1))[r]? = some d := ⟨_, List.getElem?_eq_getElem (by rw [shift_length]; omega)⟩
                  obtain ⟨d1, hd1⟩ : ∃ d1, (shift l j (r + 1))[r + 1]? = some d1 := ⟨_, List.getElem?_eq_getElem (by rw [shift_length]; omega)⟩
                  have hc0 := bl_cell HQ.out hd
                  have hc1 := bl_cell HQ.out hd1
                  have hf1 := frozen_of_row _ w.heap.size (r + 1) _ 5 HQ.out
                  have HD2 := hide hd
                  clear hd hd1
                  go_wp2
                  go_roundw
                  case rel => exact ⟨r, by omega, rfl, by show _ = _; rw [heap_setCell_same _ _ _ _ _ _ HQ.out, cellsB_set, shift_step hq hpl HD2.out], hbq.setCell (p := ⟨w.heap.size, r + 1, none⟩) (Nat.le_refl _) _⟩
                  case measure => simp [intOf]
                · have hqz : q = 0 := by omega
                  subst hqz
                  obtain ⟨d1, hd1⟩ : ∃ d1, (shift l j 0)[0]? = some d1 := ⟨_, List.getElem?_eq_getElem (by rw [shift_length]; omega)⟩
                  have hc1 := bl_cell HQ.out hd1
                  have hf1 := frozen_of_row _ w.heap.size 0 _ 5 HQ.out
                  clear hd1
                  go_wp2
                  go_roundw
                  case rel =>
                    refine ⟨k + 1, mtf l j, tb ++ ⟨#[UInt8.ofNat j]⟩, by omega, by go_num, rfl, by rw [ByteArray.size_append]; show tb.size + 1 = k + 1; omega, ?_, HF.out.mtf hpl, hbq.setCell (p := ⟨w.heap.size, 0, none⟩) (Nat.le_refl _) _, ?_⟩
                    · show _ = _
                      rw [heap_setCell_same _ _ _ _ _ _ HQ.out, cellsB_set, shift_end HF.out.1 hpl HD.out]
                    · show _ = _
                      rw [← HS.out, drop_byte s k hlt, frontL, ← HP.out, push_data, List.append_assoc]
                      rfl
                  case measure => simp [intOf]; omega
        · go_wp2
          go_ret
          have hend := HS.out
          rw [drop_end s k hlt, frontL, List.append_nil] at hend
          refine ⟨?_, hbx⟩
          rw [← hend]
          rfl

set_option maxHeartbeats 1000000 in
set_option maxRecDepth 100000 in
theorem refBehind_any (s : ByteArray) (w : World) (hs : s.size ≤ 300) :
    Calls Tryz.prog 88 #[.string s] w fun e w' => e = .returned (.string ⟨(behindL (part 256) s.data.toList).toArray⟩) ∧ Below w.heap.size w w' := by
  have hmk := make_list
  go_enter Tryz.func88, Tryz.ntmps88
  go_wp2
  clear hmk
  go_loopw [4] (fun i wr => ∃ k : Nat, k ≤ 256 ∧ i = .int .i64 k ∧ Hid (wr.heap[w.heap.size]? = some (.cells (cellsB (part k)) 5 (0, 0))) ∧ Below w.heap.size w wr) (fun i _ => 256 - (intOf i).toNat)
  case atStart => exact ⟨0, by omega, rfl, heap_alloc_new _ _, (Below.refl _ _).alloc (Nat.le_refl _) _⟩
  case round =>
    obtain ⟨k, hk, rfl, HL, hbx⟩ := hrel
    by_cases hlt : k < 256
    · obtain ⟨c, hcc⟩ : ∃ c, (part k)[k]? = some c := ⟨_, List.getElem?_eq_getElem (by rw [part_length]; exact hlt)⟩
      have hcell := bl_cell HL.out hcc
      have hfr := frozen_of_row wr w.heap.size k _ 5 HL.out
      clear hcc
      go_wp2
      go_roundw
      case rel =>
        refine ⟨k + 1, by omega, by go_num, ?_, hbx.setCell (p := ⟨w.heap.size, k, none⟩) (Nat.le_refl _) _⟩
        show _ = _
        rw [heap_setCell_same _ _ _ _ _ _ HL.out]
        have e : (k : Int) = ((UInt8.ofNat k).toNat : Int) := by simp; omega
        rw [e, cellsB_set, part_set hlt]
      case measure => simp [intOf]; omega
    · have hk2 : k = 256 := by omega
      subst hk2
      go_wp2
      go_loopw [5, 6] (fun tv i wr => ∃ (k : Nat) (l : List UInt8) (tb : ByteArray), k ≤ s.size ∧ i = .int .i64 k ∧ tv = .string tb ∧ tb.size = k ∧ Hid (wr.heap[w.heap.size]? = some (.cells (cellsB l) 5 (0, 0))) ∧ Full l ∧ Below w.heap.size w wr ∧ Hid (tb.data.toList ++ behindL l (s.data.toList.drop k) = behindL (part 256) s.data.toList)) (fun _ i _ => s.size - (intOf i).toNat)
      case atStart => exact ⟨0, part 256, ⟨#[]⟩, Nat.zero_le _, rfl, rfl, rfl, HL, full_part, hbx, rfl⟩
      case round =>
        clear hbx HL hk hlt
        obtain ⟨k, l, tb, hk, rfl, rfl, htb, HL, hfull, hbx, HS⟩ := hrel
        by_cases hlt : k < s.size
        · have hpl : s[k].toNat < 256 := by have := s[k].toNat_lt; omega
          obtain ⟨c, hd⟩ : ∃ c, l[s[k].toNat]? = some c := ⟨_, List.getElem?_eq_getElem (by rw [hfull.1]; exact hpl)⟩
          have hcell := bl_cell HL.out hd
          have hcv := conv_one wr c.toNat 0 (by have := c.toNat_lt; omega)
          rw [World.drewN_zero, show UInt8.ofNat c.toNat = c by simp] at hcv
          have hstep : behindL l (s.data.toList.drop k) = c :: behindL (mtf l s[k].toNat) (s.data.toList.drop (k + 1)) := by
            rw [drop_byte s k hlt, behindL, hd, Option.getD_some]
          have HST := hide hstep
          have HD := hide hd
          have HF := hide hfull
          clear hd hfull hstep
          go_wp2
          clear hcv hcell
          have hgs : w.heap.size < wr.heap.size := heap_lt HL.out
          go_loopw [7] (fun v w' => ∃ q : Nat, q ≤ s[k].toNat ∧ v = .int .i64 q ∧ Hid (w'.heap[w.heap.size]? = some (.cells (cellsB (shift l s[k].toNat q)) 5 (0, 0))) ∧ Below w.heap.size w w') (fun v _ => (intOf v).toNat)
          case atStart => exact ⟨s[k].toNat, Nat.le_refl _, rfl, by show _ = _; rw [shift_self HF.out.1, Lib.alloc_old _ _ _ (by exact hgs)]; exact HL.out, hbx.alloc (by exact Nat.le_of_lt hgs) _⟩
          case round =>
            clear hbx hgs
            obtain ⟨q, hq, rfl, HQ, hbq⟩ := hrel
            by_cases hq0 : 0 < q
            · obtain ⟨r, rfl⟩ : ∃ r, q = r + 1 := ⟨q - 1, by omega⟩
              obtain ⟨d, hd⟩ : ∃ d, (shift l s[k].toNat (r + 1))[r]? = some d := ⟨_, List.getElem?_eq_getElem (l := shift l s[k].toNat (r + 1)) (i := r) (by have := shift_length l s[k].toNat (r + 1); omega)⟩
              obtain ⟨d1, hd1⟩ : ∃ d1, (shift l s[k].toNat (r + 1))[r + 1]? = some d1 := ⟨_, List.getElem?_eq_getElem (l := shift l s[k].toNat (r + 1)) (i := r + 1) (by have := shift_length l s[k].toNat (r + 1); omega)⟩
              have hc0 := bl_cell HQ.out hd
              have hc1 := bl_cell HQ.out hd1
              have hf1 := frozen_of_row _ w.heap.size (r + 1) _ 5 HQ.out
              have HD2 := hide hd
              clear hd hd1
              go_wp2
              go_roundw
              case rel => exact ⟨r, by omega, rfl, by show _ = _; rw [heap_setCell_same _ _ _ _ _ _ HQ.out, cellsB_set, shift_step hq hpl HD2.out], hbq.setCell (p := ⟨w.heap.size, r + 1, none⟩) (Nat.le_refl _) _⟩
              case measure => simp [intOf]
            · have hqz : q = 0 := by omega
              subst hqz
              obtain ⟨d1, hd1⟩ : ∃ d1, (shift l s[k].toNat 0)[0]? = some d1 := ⟨_, List.getElem?_eq_getElem (l := shift l s[k].toNat 0) (i := 0) (by have := shift_length l s[k].toNat 0; omega)⟩
              have hc1 := bl_cell HQ.out hd1
              have hf1 := frozen_of_row _ w.heap.size 0 _ 5 HQ.out
              clear hd1
              go_wp2
              go_roundw
              case rel =>
                refine ⟨k + 1, mtf l s[k].toNat, tb ++ ⟨#[c]⟩, by omega, by go_num, rfl, by rw [ByteArray.size_append]; show tb.size + 1 = k + 1; omega, ?_, HF.out.mtf hpl, hbq.setCell (p := ⟨w.heap.size, 0, none⟩) (Nat.le_refl _) _, ?_⟩
                · show _ = _
                  rw [heap_setCell_same _ _ _ _ _ _ HQ.out, cellsB_set, shift_end HF.out.1 hpl HD.out]
                · show _ = _
                  rw [← HS.out, HST.out, push_data, List.append_assoc]
                  rfl
              case measure => simp [intOf]; omega
        · go_wp2
          go_ret
          have hend := HS.out
          rw [drop_end s k hlt, behindL, List.append_nil] at hend
          refine ⟨?_, hbx⟩
          rw [← hend]
          rfl
end Go.Proofs.YtkiindkoiomieaaGreatDoor
end

section
/-
  P4: the walk of twineref's Turn.
-/
namespace Go.Proofs.YtkiindkoiomieaaGreatDoor
open Go.RowKit

theorem Tryz.info123 : (Tryz.prog.info? 123).map (fun i => (i.zero, i.size, i.bytes)) = some (some (.agg #[.string ByteArray.empty, .int .i64 0]), 2, 24) := by kernel_rfl

/-- Places, as they stand in memory. -/
def rcells (o : List (List UInt8 × Nat)) : List Value := o.flatMap fun p => [strV p.1, .int .i64 p.2]

theorem rcells_length (o : List (List UInt8 × Nat)) : (rcells o).length = o.length * 2 := by
  induction o with
  | nil => rfl
  | cons p o ih =>
    rw [rcells, List.flatMap_cons, List.length_append]
    show 2 + (rcells o).length = _
    rw [ih, List.length_cons]
    omega

theorem rcells_at : ∀ {o : List (List UInt8 × Nat)} {j : Nat} {p : List UInt8 × Nat}, o[j]? = some p → (rcells o)[j * 2]? = some (strV p.1) ∧ (rcells o)[j * 2 + 1]? = some (.int .i64 p.2)
  | q :: o, 0, p, h => by
    simp at h
    subst h
    exact ⟨rfl, rfl⟩
  | q :: o, j + 1, p, h => by
    have h' : o[j]? = some p := by simpa using h
    have := rcells_at h'
    have e1 : (j + 1) * 2 = j * 2 + 2 := by omega
    rw [e1]
    exact this
  | [], j, p, h => by simp at h

theorem rcells_snoc (o : List (List UInt8 × Nat)) (p : List UInt8 × Nat) : rcells (o ++ [p]) = rcells o ++ [strV p.1, .int .i64 p.2] := by
  simp [rcells]

/-- A row of places: where its cells lie. -/
theorem round_cells {w : World} {base n : Nat} {v : Value} {o : List (List UInt8 × Nat)} (h : w.ownsRow base 123 2 v n (rcells o)) (hn : n = o.length) {j : Nat} {p : List UInt8 × Nat} (hj : o[j]? = some p) :
    ∃ g cap, v = .slice (some ⟨g, 0, none⟩) o.length cap ∧ g < w.heap.size ∧ base ≤ g ∧ w.cell? ⟨g, j * 2, none⟩ = some (strV p.1) ∧ w.cell? ⟨g, j * 2 + 1, none⟩ = some (.int .i64 p.2) := by
  subst hn
  have hl := (List.getElem?_eq_some_iff.1 hj).1
  rcases h.2 with ⟨_, h2⟩ | ⟨g, cap, cur, rfl, h3, h4, h5, h6, h7, h8⟩
  · omega
  · have hc := rcells_at hj
    refine ⟨g, cap, rfl, heap_lt0 h4, h3, ?_, ?_⟩
    · rw [h.cellAt (j * 2) (by omega)]
      exact hc.1
    · rw [h.cellAt (j * 2 + 1) (by omega)]
      exact hc.2

theorem owns_lower {w : World} {b b' : Nat} {e : TypeId} {size : Nat} {v : Value} {n : Nat} {xs : List Value} (h : w.ownsRow b' e size v n xs) (hb : b ≤ b') : w.ownsRow b e size v n xs := by
  refine ⟨h.1, ?_⟩
  rcases h.2 with h2 | ⟨g, cap, cur, h2, h3, h4⟩
  · exact .inl h2
  · exact .inr ⟨g, cap, cur, h2, Nat.le_trans hb h3, h4⟩

theorem owns_slice {w : World} {b : Nat} {e : TypeId} {size : Nat} {v : Value} {n : Nat} {xs : List Value} (h : w.ownsRow b e size v n xs) : ∃ ao cap, v = .slice ao n cap := by
  rcases h.2 with ⟨h2, h3⟩ | ⟨g, cap, cur, h2, h3, h4⟩
  · exact ⟨none, 0, by rw [h2, h3]⟩
  · exact ⟨_, _, h2⟩

theorem cell_two_new (w : World) (x y : Value) (t : TypeId) : ∀ j u, [x, y][j]? = some u → (w.alloc (.cells #[x, y] t)).cell? ((⟨w.heap.size, 0, none⟩ : Addr).add j) = some u := by
  intro j u hj
  rw [Addr.add_lit, Nat.zero_add]
  refine cell_here (heap_alloc_new _ _) ?_
  simpa using hj

theorem two_one (X : ByteArray) (y : Int) : ∀ u ∈ [Value.string X, .int .i64 y], u.oneCell' = true := by
  intro u hu
  simp at hu
  rcases hu with rfl | rfl <;> rfl

theorem byte_at (s : ByteArray) (k : Nat) (h : k < s.size) : s[k] = s.data.toList[k]?.getD 0 := by
  have h' : k < s.data.toList.length := by simpa using h
  simp only [List.getElem?_eq_getElem h', Option.getD_some]
  rfl

theorem cell_lt {w : World} {g i : Nat} {v : Value} (h : w.cell? ⟨g, i, none⟩ = some v) : g < w.heap.size := by
  rcases Nat.lt_or_ge g w.heap.size with h1 | h1
  · exact h1
  · exfalso
    have : w.heap[g]? = none := Array.getElem?_eq_none h1
    simp [World.cell?, this] at h

theorem places_length (ws : List (List UInt8)) : (Tur.places ws).length = ws.flatten.length := by
  unfold Tur.places
  rw [List.length_flatMap, List.length_flatten]
  congr 1
  simp

theorem places_few {ws : List (List UInt8)} {i : Nat} {u : List UInt8} (h : ws[i]? = some u) : (Tur.places (ws.take i)).length + u.length ≤ ws.flatten.length := by
  have h1 := Tur.places_next h
  have h2 : (Tur.places (ws.take (i + 1))).length ≤ ws.flatten.length := by
    rw [places_length]
    have : (ws.take (i + 1) ++ ws.drop (i + 1)).flatten.length = ws.flatten.length := by rw [List.take_append_drop]
    rw [List.flatten_append, List.length_append] at this
    omega
  rw [h1] at h2
  simpa using h2

theorem place_small {ws : List (List UInt8)} {i k N : Nat} {u : List UInt8} {p : List UInt8 × Nat} (hS : ws.flatten.length = N) (hN : N ≤ 300) (hu : ws[i]? = some u) (hk : k ≤ u.length) (hp : p ∈ Tur.places (ws.take i) ++ (List.range k).map fun x => (u, x)) : p.2 < p.1.length ∧ p.1.length ≤ 300 := by
  have hall : ∀ x ∈ ws, x.length ≤ 300 := fun x hx => by
    have := (List.sublist_flatten_of_mem hx).length_le
    omega
  rcases List.mem_append.1 hp with h | h
  · have := Tur.mem_places h
    exact ⟨this.2, hall _ (List.mem_of_mem_take this.1)⟩
  · simp at h
    obtain ⟨x, hx, rfl⟩ := h
    exact ⟨Nat.lt_of_lt_of_le hx hk, hall _ (List.mem_of_getElem? hu)⟩

set_option maxHeartbeats 2000000 in
set_option maxRecDepth 100000 in
theorem refTurn_any (s : ByteArray) (w : World) (hs : s.size ≤ 300) (ws : List (List UInt8)) (hg : Duv.Good ws) (hf : ws.flatten = s.data.toList) :
    Calls Tryz.prog 86 #[.string s] w fun e w' => ∃ t : List UInt8, e = .returned (strV t) ∧ Tur.Turned ws t ∧ Below w.heap.size w w' := by
  obtain ⟨i0, hi, hz0, hz1, hz2⟩ := info_parts Tryz.info123
  have cF := factors_any s w hs ws hg hf
  have hsum : ws.flatten.length = s.size := by rw [hf, ← Lib.size_eq]
  have CF := hide cF
  have HG := hide hg
  have HF := hide hf
  have HS := hide hsum
  have hfew : ws.length ≤ 300 := by
    have := good_few hg
    rw [hf, ← Lib.size_eq] at this
    omega
  clear cF hg hf hsum
  go_enter Tryz.func86, Tryz.ntmps86
  go_wp2_with (go_at_call 113; refine CF.out.mono ?_; rintro e w1 ⟨v, rfl, hrow, hb1⟩)
  rcases cells_of_owns hrow rfl with ⟨rfl, hws⟩ | ⟨g, cap, rfl, hcell⟩
  · subst hws
    go_wp2
    refine wp_loop_rounds 1 ?_
    rw [rounds_succ]
    go_wp2
    refine wp_loop_rounds 1 ?_
    rw [rounds_succ]
    go_wp2
    go_ret
    exact ⟨[], rfl, Tur.turned_of (o := []) (List.Perm.refl _) List.Pairwise.nil, hb1⟩
  · have HC := hide hcell
    have HR := hide hrow
    clear hcell hrow
    go_wp2
    go_loopw [4, 5] (fun ov iv wr => ∃ (i : Nat) (o : List (List UInt8 × Nat)), i ≤ ws.length ∧ iv = .int .i64 i ∧ wr.ownsRow w.heap.size 123 2 ov o.length (rcells o) ∧ Below w.heap.size w wr ∧ Below w1.heap.size w1 wr ∧ o.length ≤ 300 ∧ Hid (o.Perm (Tur.places (ws.take i))) ∧ Hid (Tur.Sp o)) (fun _ iv _ => ws.length - (intOf iv).toNat)
    case atStart => exact ⟨0, [], by omega, rfl, World.ownsRow_nil _ _ _ _, hb1, Below.refl _ _, by simp, hide (List.Perm.refl _), hide List.Pairwise.nil⟩
    case round =>
      obtain ⟨i, o, hi1, rfl, hro, hbx, hb2, hol, HP, HSp⟩ := hrel
      by_cases hlt : i < ws.length
      · obtain ⟨u, hu⟩ : ∃ u, ws[i]? = some u := ⟨_, List.getElem?_eq_getElem hlt⟩
        have hc0 := HC.out i u hu
        unfold strV at hc0
        have hfw := places_few hu
        rw [HS.out] at hfw
        obtain ⟨U, hU⟩ : ∃ U : ByteArray, U = ⟨u.toArray⟩ := ⟨_, rfl⟩
        have hUl : U.size = u.length := by rw [hU, strV_size]
        have hg1 : g < w1.heap.size := cell_lt hc0
        have hu0 : 0 < u.length := (HG.out.1 u (List.mem_of_getElem? hu)).1
        rw [← hU] at hc0
        rw [← hUl] at hfw hu0
        have HU := hide hu
        have HUU := hide hU
        have HUL := hide hUl
        have HC0 := hide hc0
        clear hu hU hUl hc0
        have hpl := HP.out.length_eq
        have hPx := hide HP.out
        go_wp2
        go_loopw [4, 6] (fun ov kv wr => ∃ (k : Nat) (o : List (List UInt8 × Nat)), k ≤ U.size ∧ kv = .int .i64 k ∧ wr.ownsRow w.heap.size 123 2 ov o.length (rcells o) ∧ Below w.heap.size w wr ∧ Below w1.heap.size w1 wr ∧ o.length ≤ 300 ∧ Hid (o.Perm (Tur.places (ws.take i) ++ (List.range k).map fun x => (u, x))) ∧ Hid (Tur.Sp o)) (fun _ kv _ => U.size - (intOf kv).toNat)
        case atStart => exact ⟨0, o, by omega, rfl, hro, hbx, hb2, hol, by simpa using HP, HSp⟩
        case round =>
          clear hro hbx hb2 hol HP HSp hpl hPx
          obtain ⟨k, o, hk, rfl, hro, hbx, hb2, hol, HP, HSp⟩ := hrel
          have hcu := (hb2.cell (p := ⟨g, i, none⟩) hg1).trans HC0.out
          by_cases hlk : k < U.size
          · obtain ⟨ao, capo, rfl⟩ := owns_slice hro
            rename World => wm
            have HRO := hide hro
            have hk3 : k < 300 := by omega
            clear hro
            go_wp2_with fail
            go_loopw [8, 9, 10] (fun nv dv jv wr => ∃ (j : Nat) (d : Bool) (n : List (List UInt8 × Nat)), j ≤ o.length ∧ jv = .int .i64 j ∧ dv = .bool d ∧ wr.ownsRow (wm.heap.size + 1) 123 2 nv n.length (rcells n) ∧ Below (wm.heap.size + 1) (wm.alloc (.cells #[.string U, .int .i64 k] 123)) wr ∧ Hid (Tur.Ins (u, k) o j d n)) (fun _ _ jv _ => o.length - (intOf jv).toNat)
            case atStart => exact ⟨0, false, [], by omega, rfl, rfl, World.ownsRow_nil _ _ _ _, Below.refl _ _, hide (Tur.Ins.start _ _)⟩
            case round =>
              obtain ⟨j, d, n, hj, rfl, rfl, hrn, hbw, HI⟩ := hrel
              have hnlen := HI.out.length hj
              have hdle : d.toNat ≤ 1 := Bool.toNat_le d
              have hsz1 : wm.heap.size + 1 ≤ wr.heap.size := by have := hbw.size; simpa using this
              have hblk : wr.heap[wm.heap.size]? = some (.cells #[.string U, .int .i64 k] 123 (0, 0)) := by
                rw [hbw.block _ (by omega)]
                exact heap_alloc_new _ _
              have c1 := cell_here hblk (j := 0) (v := .string U) rfl
              have c2 := cell_here hblk (j := 1) (v := .int .i64 k) rfl
              have HB := hide hblk
              clear hblk
              by_cases hlj : j < o.length
              · obtain ⟨p, hp⟩ : ∃ p, o[j]? = some p := ⟨_, List.getElem?_eq_getElem hlj⟩
                obtain ⟨go, capo', hv, hgo, hgb, hp1, hp2⟩ := round_cells HRO.out rfl hp
                simp only [Value.slice.injEq] at hv
                obtain ⟨rfl, _, rfl⟩ := hv
                obtain ⟨V, hV⟩ : ∃ V : ByteArray, Value.string V = strV p.1 := ⟨_, rfl⟩
                rw [← hV] at hp1
                have hgo' : (⟨go, j * 2, none⟩ : Addr).block < wm.heap.size + 1 := by show go < _; omega
                have hgo2 : (⟨go, j * 2 + 1, none⟩ : Addr).block < wm.heap.size + 1 := by show go < _; omega
                have c3 : wr.cell? ⟨go, j * 2, none⟩ = some (.string V) := by
                  rw [hbw.cell hgo']
                  exact Lib.cell?_alloc_some _ hp1
                have c4 : wr.cell? ⟨go, j * 2 + 1, none⟩ = some (.int .i64 p.2) := by
                  rw [hbw.cell hgo2]
                  exact Lib.cell?_alloc_some _ hp2
                clear hp1 hp2 hgo' hgo2
                obtain ⟨b, hb⟩ : ∃ b : Bool, b = true ↔ Tur.LtP (u, k) p := by
                  by_cases h : Tur.LtP (u, k) p
                  · exact ⟨true, fun _ => h, fun _ => rfl⟩
                  · exact ⟨false, fun e => (Bool.false_ne_true e).elim, fun h' => absurd h' h⟩
                have hpm := HP.out.mem_iff.1 (List.mem_of_getElem? hp)
                have hpin : p.2 < p.1.length ∧ p.1.length ≤ 300 := place_small HS.out hs HU.out (by rw [← HUL.out]; exact hk) hpm
                have hA : ∀ W, Calls Tryz.prog 114 #[.agg #[.string U, .int .i64 k], .agg #[.string V, .int .i64 p.2]] W fun e w' => e = .returned (.bool b) ∧ Below W.heap.size W w' := fun W => by
                  have := ahead_any (u, k) p W (by rw [← HUL.out]; exact hlk) (by rw [← HUL.out]; omega) hpin.1 hpin.2 b hb
                  unfold rv at this
                  rw [← hV] at this
                  simp only [strV] at this
                  rw [← HUU.out] at this
                  exact this
                have HA := hide hA
                have HBB := hide hb
                have HV := hide hV
                have HPP := hide hp
                clear hA hb hV hp hpm hpin
                cases d with
                | true =>
                  have hrn1 := hrn
                  go_wp2_with fail
                  go_quiet (fail)
                  go_wp2_with (at_builtin; refine wpList_append_own _ rfl _ _ 121 rfl (wm.heap.size + 1) 123 i0 (.agg #[.string ByteArray.empty, .int .i64 0]) 2 24 Tryz.underlying121 hi hz0 hz1 hz2 rfl (by decide) _ _ _ rfl ((owns_drewN hrn1 _).alloc _) ⟨wr.heap.size, 0, none⟩ 1 1 [.string V, .int .i64 p.2] rfl rfl (cell_two_new _ _ _ _) (two_one _ _) (by unfold maxLen; omega) (by omega) (Nat.le_trans hsz1 (World.grownBy_alloc _ _ none).size) ?_; intro v' w3 hown hgrow hnil)
                  go_roundw
                  case rel => exact ⟨j + 1, true, n ++ [p], by omega, by go_num, rfl, by rw [rcells_snoc, List.length_append, ← HV.out]; exact hown, ((below_drewN hbw _).alloc hsz1 _).grown hgrow (by simp; omega) (fun q hq => (hrn.lt q hq).1), hide (HI.out.rest HPP.out)⟩
                  case measure => simp [intOf]; omega
                | false =>
                  go_wp2_with fail
                  go_region_held3 (fun w' => w'.cell? ⟨wm.heap.size, 0, none⟩ = some (.string U) ∧ w'.cell? ⟨wm.heap.size, 1, none⟩ = some (.int .i64 k) ∧ w'.cell? ⟨go, j * 2, none⟩ = some (.string V) ∧ w'.cell? ⟨go, j * 2 + 1, none⟩ = some (.int .i64 p.2)) (go_keep) (first | (go_at_call 114; refine (HA.out _).mono ?_; rintro e w2 ⟨rfl, hb3⟩; have c5 := (hb3.cell (p := ⟨wm.heap.size, 0, none⟩) (by show wm.heap.size < wr.heap.size; omega)).trans c1; have c6 := (hb3.cell (p := ⟨wm.heap.size, 1, none⟩) (by show wm.heap.size < wr.heap.size; omega)).trans c2; have c7 := (hb3.cell (p := ⟨go, j * 2, none⟩) (by show go < wr.heap.size; omega)).trans c3; have c8 := (hb3.cell (p := ⟨go, j * 2 + 1, none⟩) (by show go < wr.heap.size; omega)).trans c4))
                  clear c1 c2 c3 c4
                  have hrn2 : w2.ownsRow (wm.heap.size + 1) 123 2 u8 n.length (rcells n) := owns_below (owns_drewN hrn 1) hb3
                  have hbw2 : Below (wm.heap.size + 1) (wm.alloc (.cells #[.string U, .int .i64 k] 123)) w2 := (below_drewN hbw 1).trans (hb3.mono hsz1)
                  have hsz2 : wm.heap.size + 1 ≤ w2.heap.size := by have := hbw2.size; simpa using this
                  cases b with
                  | true =>
                    go_wp2_with (first
                      | (at_builtin; refine wpList_append_own _ rfl _ _ 121 rfl (wm.heap.size + 1) 123 i0 (.agg #[.string ByteArray.empty, .int .i64 0]) 2 24 Tryz.underlying121 hi hz0 hz1 hz2 rfl (by decide) _ _ _ rfl (hrn2.alloc _) ⟨w2.heap.size, 0, none⟩ 1 1 [.string U, .int .i64 k] rfl rfl (cell_two_new _ _ _ _) (two_one _ _) (by unfold maxLen; omega) (by omega) (Nat.le_trans hsz2 (World.grownBy_alloc _ _ none).size) ?_; intro v3 w3 hown3 hgrow3 hnil3; have hbw3 := (hbw2.alloc hsz2 _).grown hgrow3 (Nat.le_trans hsz2 (World.grownBy_alloc _ _ none).size) (fun q hq => (hrn2.lt q hq).1); have hsz3 : wm.heap.size + 1 ≤ w3.heap.size := (by have := hbw3.size; simpa using this); have c9 : w3.cell? ⟨go, j * 2, none⟩ = some (.string V) := (hbw3.cell (by show go < _; omega)).trans ((hbw2.cell (by show go < _; omega)).symm.trans c7); have c10 : w3.cell? ⟨go, j * 2 + 1, none⟩ = some (.int .i64 p.2) := (hbw3.cell (by show go < _; omega)).trans ((hbw2.cell (by show go < _; omega)).symm.trans c8))
                      | (at_builtin; refine wpList_append_own _ rfl _ _ 121 rfl (wm.heap.size + 1) 123 i0 (.agg #[.string ByteArray.empty, .int .i64 0]) 2 24 Tryz.underlying121 hi hz0 hz1 hz2 rfl (by decide) _ _ _ rfl (hown3.alloc _) ⟨w3.heap.size, 0, none⟩ 1 1 [.string V, .int .i64 p.2] rfl rfl (cell_two_new _ _ _ _) (two_one _ _) (by unfold maxLen; omega) (by omega) (Nat.le_trans hsz3 (World.grownBy_alloc _ _ none).size) ?_; intro v4 w4 hown4 hgrow4 hnil4))
                    go_roundw
                    case rel =>
                      refine ⟨j + 1, true, n ++ [(u, k)] ++ [p], by omega, by go_num, rfl, ?_, (hbw3.alloc hsz3 _).grown hgrow4 (Nat.le_trans hsz3 (World.grownBy_alloc _ _ none).size) (fun q hq => (hown3.lt q hq).1), hide (HI.out.here HPP.out (HBB.out.1 rfl))⟩
                      rw [rcells_snoc, rcells_snoc, List.length_append, List.length_append, ← HV.out]
                      simp only [strV]
                      rw [← HUU.out]
                      exact hown4
                    case measure => simp [intOf]; omega
                  | false =>
                    go_wp2_with (at_builtin; refine wpList_append_own _ rfl _ _ 121 rfl (wm.heap.size + 1) 123 i0 (.agg #[.string ByteArray.empty, .int .i64 0]) 2 24 Tryz.underlying121 hi hz0 hz1 hz2 rfl (by decide) _ _ _ rfl (hrn2.alloc _) ⟨w2.heap.size, 0, none⟩ 1 1 [.string V, .int .i64 p.2] rfl rfl (cell_two_new _ _ _ _) (two_one _ _) (by unfold maxLen; omega) (by omega) (Nat.le_trans hsz2 (World.grownBy_alloc _ _ none).size) ?_; intro v' w3 hown hgrow hnil)
                    go_roundw
                    case rel => exact ⟨j + 1, false, n ++ [p], by omega, by go_num, rfl, by rw [rcells_snoc, List.length_append, ← HV.out]; exact hown, (hbw2.alloc hsz2 _).grown hgrow (by simp; omega) (fun q hq => (hrn2.lt q hq).1), hide (HI.out.past HPP.out (fun h => by cases HBB.out.2 h))⟩
                    case measure => simp [intOf]; omega
              · have hjo : j = o.length := by omega
                subst hjo
                have hfin := HI.out.done HSp.out
                have hall : (n ++ (if d = true then [] else [(u, k)])).Perm (Tur.places (ws.take i) ++ (List.range (k + 1)).map fun x => (u, x)) := by
                  refine hfin.1.trans ?_
                  rw [List.range_succ, List.map_append, ← List.append_assoc]
                  exact HP.out.append_right _
                have hlen : (n ++ (if d = true then [] else [(u, k)])).length ≤ 300 := by
                  rw [hall.length_eq, List.length_append, List.length_map, List.length_range]
                  omega
                have HFN := hide hfin
                have HAL := hide hall
                have HLN := hide hlen
                have hbw' : Below w.heap.size w wr := (hbx.alloc hbx.size _).trans (hbw.mono (by have := hbx.size; simp; omega))
                have hbv' : Below w1.heap.size w1 wr := (hb2.alloc hb2.size _).trans (hbw.mono (by have := hb2.size; simp; omega))
                clear hfin hall hlen
                cases d with
                | true =>
                  go_wp2
                  go_roundw
                  case rel => exact ⟨k + 1, n, by omega, by go_num, owns_lower hrn (by have := hbx.size; omega), hbw', hbv', by simpa using HLN.out, by simpa using HAL, hide (by simpa using HFN.out.2)⟩
                  case measure => simp [intOf]; omega
                | false =>
                  go_wp2_with (at_builtin; refine wpList_append_own _ rfl _ _ 121 rfl (wm.heap.size + 1) 123 i0 (.agg #[.string ByteArray.empty, .int .i64 0]) 2 24 Tryz.underlying121 hi hz0 hz1 hz2 rfl (by decide) _ _ _ rfl (hrn.alloc _) ⟨wr.heap.size, 0, none⟩ 1 1 [.string U, .int .i64 k] rfl rfl (cell_two_new _ _ _ _) (two_one _ _) (by unfold maxLen; omega) (by omega) (Nat.le_trans hsz1 (World.grownBy_alloc _ _ none).size) ?_; intro v' w3 hown hgrow hnil)
                  go_roundw
                  case rel =>
                    refine ⟨k + 1, n ++ [(u, k)], by omega, by go_num, ?_, (hbw'.alloc hbw'.size _).grown hgrow (Nat.le_trans hbw'.size (World.grownBy_alloc _ _ none).size) (fun q hq => by have := (hrn.lt q hq).1; have := hbx.size; omega), (hbv'.alloc hbv'.size _).grown hgrow (Nat.le_trans hbv'.size (World.grownBy_alloc _ _ none).size) (fun q hq => by have := (hrn.lt q hq).1; have := hb2.size; omega), by simpa using HLN.out, by simpa using HAL, hide (by simpa using HFN.out.2)⟩
                    rw [rcells_snoc, List.length_append]
                    simp only [strV]
                    rw [← HUU.out]
                    exact owns_lower hown (by have := hbx.size; omega)
                  case measure => simp [intOf]; omega
          · have hkU : k = U.size := by omega
            go_wp2
            go_roundw
            case rel =>
              refine ⟨i + 1, o, by omega, by go_num, hro, hbx, hb2, hol, ?_, HSp⟩
              apply hide
              rw [Tur.places_next HU.out, ← HUL.out, ← hkU]
              exact HP.out
            case measure => simp [intOf]; omega
      · have hiw : i = ws.length := by omega
        have hP2 : o.Perm (Tur.places ws) := by
          have := HP.out
          rwa [hiw, List.take_length] at this
        subst hiw
        have hT := hide (Tur.turned_of hP2 HSp.out)
        have hin : Hid (∀ p ∈ o, p.2 < p.1.length ∧ p.1.length ≤ 300) := fun p hp => by
          have h1 := Tur.mem_places (hP2.mem_iff.1 hp)
          refine ⟨h1.2, ?_⟩
          have := (List.sublist_flatten_of_mem h1.1).length_le
          rw [HS.out] at this
          omega
        obtain ⟨ao, capo, rfl⟩ := owns_slice hro
        have HRO := hide hro
        rename World => wm
        clear hro hP2
        go_wp2_with fail
        go_loopw [11, 12] (fun tv jv wr => ∃ (j : Nat) (tb : ByteArray), j ≤ o.length ∧ jv = .int .i64 j ∧ tv = .string tb ∧ tb.size = j ∧ Hid (tb.data.toList = (o.take j).map fun p => Tur.ah p.1 p.2) ∧ Below wm.heap.size wm wr) (fun _ jv _ => o.length - (intOf jv).toNat)
        case atStart => exact ⟨0, ⟨#[]⟩, by omega, rfl, rfl, rfl, hide rfl, Below.refl _ _⟩
        case round =>
          obtain ⟨j, tb, hj, rfl, rfl, htb, HT, hbw⟩ := hrel
          by_cases hlj : j < o.length
          · obtain ⟨p, hp⟩ : ∃ p, o[j]? = some p := ⟨_, List.getElem?_eq_getElem hlj⟩
            obtain ⟨go, capo', hv, hgo, hgb, hp1, hp2⟩ := round_cells HRO.out rfl hp
            simp only [Value.slice.injEq] at hv
            obtain ⟨rfl, _, rfl⟩ := hv
            obtain ⟨V, hV⟩ : ∃ V : ByteArray, Value.string V = strV p.1 := ⟨_, rfl⟩
            rw [← hV] at hp1
            have c3 := (hbw.cell (p := ⟨go, j * 2, none⟩) hgo).trans hp1
            have c4 := (hbw.cell (p := ⟨go, j * 2 + 1, none⟩) hgo).trans hp2
            have hsm := hin.out p (List.mem_of_getElem? hp)
            have hVl : V.data.toList = p.1 := by
              simp only [strV, Value.string.injEq] at hV
              rw [hV]
            have hVs : V.size = p.1.length := by rw [Lib.size_eq, hVl]
            rw [← hVs] at hsm
            have HV := hide hV
            have HVl := hide hVl
            have HPP := hide hp
            clear hV hVl hp hp1 hp2 hVs
            obtain ⟨r, hr⟩ : ∃ r, r = (p.2 + V.size - 1) % V.size := ⟨_, rfl⟩
            have hrl : r < V.size := by rw [hr]; exact Nat.mod_lt _ (by omega)
            have hz : ¬ ((V.size : Int) = 0) := by omega
            have hz' : ¬ (V.size = 0) := by omega
            have hR := hide hr
            have hq : ((p.2 : Int) + (V.size : Int) - 1) = ((p.2 + V.size - 1 : Nat) : Int) := by omega
            have hm1 : ((p.2 : Int) + (V.size : Int) - 1) % (V.size : Int) = (r : Int) := by rw [hq, hr]; exact (Int.natCast_emod _ _).symm
            have hm2 : ((p.2 : Int) + (V.size : Int) - 1).tmod (V.size : Int) = (r : Int) := by rw [hq, hr]; exact (Int.ofNat_tmod _ _).symm
            have hm3 : (IntKind.i64.wrap (IntKind.i64.wrap ((p.2 : Int) + (V.size : Int)) - 1)).tmod (V.size : Int) = (r : Int) := by
              have e1 : IntKind.i64.wrap ((p.2 : Int) + (V.size : Int)) = (p.2 : Int) + (V.size : Int) := by
                rw [← Int.natCast_add]
                exact wrap_nat _ (by omega)
              have e2 : IntKind.i64.wrap ((p.2 : Int) + (V.size : Int) - 1) = (p.2 : Int) + (V.size : Int) - 1 := by
                rw [hq]
                exact wrap_nat _ (by omega)
              rw [e1, e2, hm2]
            have hdv : ∀ W, Sem.run Tryz.prog (Op.intDiv .rem .i64 (IntKind.i64.wrap (IntKind.i64.wrap ((p.2 : Int) + (V.size : Int)) - 1)) (V.size : Int)) W = .ok (.int .i64 (r : Int)) W := fun W => by
              unfold Op.intDiv
              rw [if_neg hz, hm3]
              rfl
            have hr1 : (0 : Int) ≤ (r : Int) := by omega
            have hr2 : (r : Int) < (V.size : Int) := by omega
            clear hr hq
            go_wp2_with fail
            generalize hW1 : wr.alloc (Obj.cells #[.string V, .int .i64 p.2] 123) = W1
            have hh : W1.heap[wr.heap.size]? = some (.cells #[.string V, .int .i64 p.2] 123 (0, 0)) := by rw [← hW1]; exact heap_alloc_new _ _
            have c5 := cell_here hh (j := 0) (v := .string V) rfl
            have c6 := cell_here hh (j := 1) (v := .int .i64 p.2) rfl
            have hsz : W1.heap.size = wr.heap.size + 1 := by rw [← hW1]; simp
            have HW1 := hide hW1
            have hne : ∀ o : Obj, (W1.alloc o).cell? ⟨wr.heap.size, 0, none⟩ = some (.string V) := fun o => Lib.cell?_alloc_some _ c5
            have hne2 : ∀ o : Obj, (W1.alloc o).cell? ⟨wr.heap.size, 1, none⟩ = some (.int .i64 p.2) := fun o => Lib.cell?_alloc_some _ c6
            have hcv : (convert 81 9 (.slice (some ⟨W1.heap.size, 0, none⟩) 1 1)).run Tryz.prog (W1.alloc (.cells #[.int .u8 (V[r].toNat : Int)] 5)).drew = .ok (.string ⟨#[UInt8.ofNat V[r].toNat]⟩) (W1.alloc (.cells #[.int .u8 (V[r].toNat : Int)] 5)).drew := conv_one W1 V[r].toNat 1 (by have := V[r].toNat_lt; omega)
            rw [show UInt8.ofNat V[r].toNat = V[r] by simp] at hcv
            clear hh hW1 c3 c4 hsz
            go_region
            clear hne hne2 hcv hdv hm1 hm2 hm3 c5 c6
            go_wp2
            go_roundw
            case rel =>
              have hb3 : Below wm.heap.size wm W1 := HW1.out ▸ hbw.alloc hbw.size _
              refine ⟨j + 1, tb ++ ⟨#[V[r]]⟩, by omega, by go_num, rfl, by rw [ByteArray.size_append]; show tb.size + 1 = j + 1; omega, ?_, below_drewN (hb3.alloc hb3.size _) 1⟩
              apply hide
              rw [push_data, HT.out, Tur.take_next HPP.out, List.map_append]
              congr 1
              simp only [List.map_cons, List.map_nil, List.cons.injEq, and_true]
              unfold Tur.ah
              rw [← HVl.out, ← Lib.size_eq, ← hR.out]
              exact byte_at V r hrl
            case measure => simp [intOf]; omega
          · have hjo : j = o.length := by omega
            go_wp2
            go_ret
            refine ⟨o.map fun p => Tur.ah p.1 p.2, ?_, hT.out, hbx.trans (hbw.mono hbx.size)⟩
            have := HT.out
            rw [hjo, List.take_length] at this
            rw [← this]
            rfl
end Go.Proofs.YtkiindkoiomieaaGreatDoor
end

